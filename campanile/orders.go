package campanile

import (
	"strings"

	"campanile/api"
	"campanile/band"
	"campanile/call"
	"campanile/colour"
	"campanile/extent"
	"campanile/group"
	"campanile/method"
	"campanile/music"
	"campanile/place"
	"campanile/search"
	"campanile/truth"
)

// mostHeads is how many false ones are told.
const mostHeads = 20

func (t *tower) takeMethod(words []string) ([]string, api.Errno) {
	// Its name may have blanks.
	m, e := method.Read(strings.Join(words, " "))
	if e != api.OK {
		return nil, e
	}
	t.method, t.calls, t.touch = m, []api.Call{{Sign: 'p'}}, nil
	return []string{"ok"}, api.OK
}

func (t *tower) takeCall(words []string) ([]string, api.Errno) {
	sign, e := readSign(words[0])
	if e != api.OK {
		return nil, e
	}
	changes, e := place.Parse(t.method.Bells, words[1])
	if e != api.OK {
		return nil, e
	}
	calls := append(t.calls, api.Call{Sign: sign, Changes: changes})
	if e := call.Check(t.method, calls); e != api.OK {
		return nil, e
	}
	t.calls = calls
	return []string{"ok"}, api.OK
}

func (t *tower) takeTouch(words []string) ([]string, api.Errno) {
	leads, e := call.Parse(t.calls, words[0])
	if e != api.OK {
		return nil, e
	}
	if e := call.May(t.method, t.calls, leads); e != api.OK {
		return nil, e
	}
	t.touch = leads
	return t.print(leads), api.OK
}

// print tells touches that may be.
func (t *tower) print(touches ...[]int) []string {
	words := make([]string, len(touches))
	for i, leads := range touches {
		words[i], _ = call.Print(t.calls, leads)
	}
	return words
}

func (t *tower) lead([]string) ([]string, api.Errno) {
	rows, e := method.Lead(t.method)
	return signs(rows...), e
}

func (t *tower) head([]string) ([]string, api.Errno) {
	head, leads, e := method.Head(t.method)
	mirrored, _ := method.Mirrored(t.method)
	answer := append(signs(head), digits(leads)...)
	return append(answer, yesNo(mirrored)), e
}

func (t *tower) line(words []string) ([]string, api.Errno) {
	numbers, e := readNumbers(words)
	if e != api.OK {
		return nil, e
	}
	places, e := method.Line(t.method, numbers[0]-1)
	return digits(places...), e
}

func (t *tower) prove([]string) ([]string, api.Errno) {
	r, e := truth.Prove(t.method, t.calls, t.touch)
	answer := append(digits(r.Changes), yesNo(r.Round), yesNo(r.True))
	return append(answer, digits(r.Again, r.Before)...), e
}

func (t *tower) heads([]string) ([]string, api.Errno) {
	heads, e := truth.Heads(t.method, t.calls, t.touch)
	return signs(heads...), e
}

func (t *tower) falseHeads([]string) ([]string, api.Errno) {
	heads, self, e := truth.False(t.method)
	answer := append([]string{yesNo(self)}, digits(len(heads))...)
	return append(answer, signs(heads[:min(len(heads), mostHeads)]...)...), e
}

func (t *tower) search(words []string) ([]string, api.Errno) {
	numbers, e := readNumbers(words)
	if e != api.OK {
		return nil, e
	}
	touches, e := search.Touches(t.method, t.calls, numbers[0], numbers[1])
	return append(digits(len(touches)), t.print(touches...)...), e
}

// rows are all of the touch: that it may be was asked when it was taken.
func (t *tower) rows() [][]int {
	rows, _ := call.Rows(t.method, t.calls, t.touch)
	return rows
}

func (t *tower) music(patterns []string) ([]string, api.Errno) {
	many, e := music.Count(t.method.Bells, patterns, t.rows())
	return append([]string{"music"}, digits(many...)...), e
}

func (t *tower) band(words []string) ([]string, api.Errno) {
	numbers, e := readNumbers(words)
	if e != api.OK {
		return nil, e
	}
	slip := api.Slip{At: numbers[0], Place: numbers[1], For: numbers[2]}
	rung, e := band.Ring(t.method, t.calls, t.touch, []api.Slip{slip})
	return append([]string{"wrong"}, digits(band.Wrong(rung, t.rows())...)...), e
}

func (*tower) group(words []string) ([]string, api.Errno) {
	rows, e := readRows(words)
	if e != api.OK {
		return nil, e
	}
	last := len(rows) - 1
	if last < 1 {
		return nil, api.ErrShort
	}
	g, e := group.Make(len(rows[0]), rows[:last])
	if e != api.OK {
		return nil, e
	}
	has, e := g.Has(rows[last])
	return append(digits(g.Size()), yesNo(has)), e
}

func (*tower) colours(words []string) ([]string, api.Errno) {
	if len(words) < 2 {
		return nil, api.ErrShort
	}
	numbers, e := readNumbers(words[:1])
	if e != api.OK {
		return nil, e
	}
	rows, e := readRows(words[1:])
	if e != api.OK {
		return nil, e
	}
	many, e := colour.Count(len(rows[0]), rows, numbers[0])
	return digits(many), e
}

func (*tower) circuit(words []string) ([]string, api.Errno) {
	rows, e := readRows(words)
	if e != api.OK {
		return nil, e
	}
	if len(rows) == 0 {
		return nil, api.ErrShort
	}
	way, is, e := extent.Circuit(len(rows[0]), rows)
	return append([]string{yesNo(is)}, digits(way...)...), e
}
