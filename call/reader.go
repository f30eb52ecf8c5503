package call

import (
	"slices"
	"strings"
	"unicode/utf8"

	"campanile/api"
)

// reader: what is known of a touch up to some rune.
type reader struct {
	calls []api.Call
	// The brackets that are open, one in the other; the first one stands for the text itself.
	open []bracket
	// The number ahead of the item that must come; 0: there is none.
	number int
}

// bracket: how often it is there, and the leads of its items so far.
type bracket struct {
	times int
	leads []int
}

// noRune: a byte that belongs to no rune comes out of a text as the rune that stands for such ones, which a text may have, too.
func noRune(sign rune, text string) bool {
	return sign == utf8.RuneError && !strings.HasPrefix(text, string(utf8.RuneError))
}

func (r *reader) take(sign rune) api.Errno {
	switch {
	case digit(sign):
		return r.digit(int(sign - '0'))
	case sign == '(':
		return r.opening()
	case sign == ')':
		return r.closing()
	}
	c := find(r.calls, sign)
	if c < 0 {
		return api.ErrWord
	}
	return r.add(r.times(), []int{c})
}

func (r *reader) digit(d int) api.Errno {
	r.number = r.number*10 + d
	if r.number < 1 || r.number > api.MaxTimes {
		return api.ErrValue
	}
	return api.OK
}

// times tells how often the item that begins here is there: the number is used up by it.
func (r *reader) times() int {
	times := max(r.number, 1)
	r.number = 0
	return times
}

func (r *reader) opening() api.Errno {
	if r.within() == api.MaxNest {
		return api.ErrDeep
	}
	r.open = append(r.open, bracket{times: r.times()})
	return api.OK
}

// within tells how many brackets are open in the text.
func (r *reader) within() int { return len(r.open) - 1 }

func (r *reader) closing() api.Errno {
	last := r.open[len(r.open)-1]
	if r.within() == 0 || r.number > 0 || len(last.leads) == 0 {
		return api.ErrWord
	}
	r.open = r.open[:len(r.open)-1]
	return r.add(last.times, last.leads)
}

// add counts ahead of laying an item down: brackets in brackets could tell of far more leads than may be.
func (r *reader) add(times int, leads []int) api.Errno {
	into := &r.open[len(r.open)-1]
	if len(into.leads)+times*len(leads) > api.MaxLeads {
		return api.ErrLimit
	}
	into.leads = append(into.leads, slices.Repeat(leads, times)...)
	return api.OK
}

func (r *reader) end() ([]int, api.Errno) {
	leads := r.open[0].leads
	if r.within() > 0 || r.number > 0 || len(leads) == 0 {
		return nil, api.ErrShort
	}
	return leads, api.OK
}
