package book

import (
	"slices"
	"strconv"
	"strings"

	"campanile/api"
	"campanile/method"
)

const (
	maxDay     = 1000000
	maxChanges = 1000000
)

// entry: a record that stands in a book, or was to stand there.
type entry interface {
	day() int
	rang(ringer string) bool
	// count adds what each ringer rang to what was rung ahead.
	count(rung map[string]int)
	// line is how the book's bytes tell it, with its newline.
	line() string
	// record is one that shares no memory with the entry.
	record() api.Record
}

// peal is an entry that may be.
type peal struct {
	api.Record
}

// refused is one that may not be.
type refused struct {
	peal
	why api.Errno
}

// enter makes a record an entry: one that may be shares no memory with it.
func enter(r api.Record) entry {
	p := peal{r}
	if why := may(r); why != api.OK {
		return refused{p, why}
	}
	return peal{p.record()}
}

// fault is why an entry may not be.
func fault(e entry) api.Errno {
	if r, ok := e.(refused); ok {
		return r.why
	}
	return api.OK
}

func may(r api.Record) api.Errno {
	if r.Day < 0 || r.Day > maxDay || r.Changes < 1 || r.Changes > maxChanges {
		return api.ErrValue
	}
	if !method.Name(r.Method) {
		return api.ErrName
	}
	if len(r.Ringers) < 1 || len(r.Ringers) > api.MaxRingers {
		return api.ErrCount
	}
	for i, ringer := range r.Ringers {
		if !method.Name(ringer) {
			return api.ErrName
		}
		if slices.Contains(r.Ringers[:i], ringer) {
			return api.ErrDouble
		}
	}
	return api.OK
}

func (p peal) day() int { return p.Day }

func (p peal) rang(ringer string) bool { return slices.Contains(p.Ringers, ringer) }

func (p peal) count(rung map[string]int) {
	for _, ringer := range p.Ringers {
		rung[ringer] += p.Changes
	}
}

func (p peal) line() string {
	parts := []string{strconv.Itoa(p.Day), strconv.Itoa(p.Changes), p.Method, strings.Join(p.Ringers, ",")}
	text := strings.Join(parts, "|")
	return text + "#" + strconv.FormatUint(uint64(checkOf(text)), 10) + "\n"
}

func (p peal) record() api.Record {
	r := p.Record
	r.Ringers = slices.Clone(r.Ringers)
	return r
}
