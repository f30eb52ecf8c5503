package group_test

import (
	"fmt"
	"math"
	"slices"
	"testing"

	"campanile/api"
	"campanile/group"
)

// upTo is 0, 1, .., n - 1, whether such a row may be or not.
func upTo(n int) []int {
	r := make([]int, n)
	for i := range r {
		r[i] = i
	}
	return r
}

// cycled is the row of n bells with these cycles.
func cycled(n int, cycles ...[]int) []int {
	r := upTo(n)
	for _, c := range cycles {
		for i, bell := range c {
			r[bell] = c[(i+1)%len(c)]
		}
	}
	return r
}

func changed(a, b []int) []int {
	r := make([]int, len(a))
	for i, place := range b {
		r[i] = a[place]
	}
	return r
}

func undone(r []int) []int {
	back := make([]int, len(r))
	for place, bell := range r {
		back[bell] = place
	}
	return back
}

// allRows are all rows of n bells, in order.
func allRows(n int) [][]int {
	var all [][]int
	var grow func(r []int)
	grow = func(r []int) {
		if len(r) == n {
			all = append(all, slices.Clone(r))
			return
		}
		for bell := range n {
			if !slices.Contains(r, bell) {
				grow(append(r, bell))
			}
		}
	}
	grow(nil)
	return all
}

// comesOf are all rows that come of gens, in order: by the words of the promise, without the package's help.
func comesOf(n int, gens [][]int) [][]int {
	rows := [][]int{upTo(n)}
	seen := map[string]bool{fmt.Sprint(upTo(n)): true}
	for i := 0; i < len(rows); i++ {
		for _, g := range gens {
			r := changed(rows[i], g)
			if key := fmt.Sprint(r); !seen[key] {
				seen[key] = true
				rows = append(rows, r)
			}
		}
	}
	slices.SortFunc(rows, slices.Compare[[]int])
	return rows
}

func holds(rows [][]int, r []int) bool {
	_, ok := slices.BinarySearchFunc(rows, r, slices.Compare[[]int])
	return ok
}

func same(a, b [][]int) bool { return slices.EqualFunc(a, b, slices.Equal[[]int]) }

func mustMake(t *testing.T, n int, gens ...[]int) *group.Group {
	t.Helper()
	g, e := group.Make(n, gens)
	if e != api.OK || g == nil {
		t.Fatalf("Make(%d, %v) = %v, %d", n, gens, g, e)
	}
	return g
}

// sample: generators whose groups are small enough to be gone through.
type sample struct {
	n    int
	gens [][]int
}

func samples() []sample {
	l := []sample{
		{1, nil}, {1, [][]int{{0}}}, {2, nil}, {2, [][]int{{1, 0}}}, {2, [][]int{{0, 1}, {1, 0}}},
		{api.MaxBells, nil},
		{api.MaxBells, [][]int{cycled(12, []int{0, 1, 2}, []int{3, 4, 5, 6}, []int{7, 8, 9, 10, 11})}},
		{api.MaxBells, [][]int{cycled(12, []int{11, 10}), cycled(12, []int{0, 5}), cycled(12, []int{5, 7})}},
		{7, [][]int{cycled(7, []int{0, 1, 2, 3, 4, 5, 6}), cycled(7, []int{0, 1}, []int{2, 5})}},
		{6, [][]int{{1, 2, 3, 4, 5, 0}, {5, 4, 3, 2, 1, 0}}},
		{5, [][]int{{0, 1, 2, 3, 4}, {0, 1, 2, 3, 4}}},
	}
	for n := 1; n <= 3; n++ {
		for _, a := range allRows(n) {
			for _, b := range allRows(n) {
				l = append(l, sample{n, [][]int{a, b}})
			}
		}
	}
	rows := allRows(4)
	for i, a := range rows {
		l = append(l, sample{4, [][]int{a}})
		for _, b := range rows[:i] {
			l = append(l, sample{4, [][]int{a, b}})
		}
	}
	rows = allRows(6)
	for i := range 30 {
		l = append(l, sample{6, [][]int{rows[i*23+5], rows[(i*i*37+11)%720]}})
		l = append(l, sample{6, [][]int{changed(rows[i*24], rows[i*24])}})
	}
	var eight [][]int
	for i := range api.MaxGens {
		eight = append(eight, cycled(9, []int{i % 4, 4 + i%4}))
	}
	return append(l, sample{9, eight})
}

// M11 has 7920 rows, of which just one brings four bells to four places; M12 95040, and five bells.
func m11(n int) [][]int {
	return [][]int{
		cycled(n, []int{0, 1, 2, 3, 4, 5, 6, 7, 8, 9, 10}),
		cycled(n, []int{2, 6, 10, 7}, []int{3, 9, 4, 5}),
	}
}

func m12() [][]int {
	return append(m11(12), cycled(12, []int{0, 11}, []int{1, 10}, []int{2, 5}, []int{3, 7}, []int{4, 8}, []int{6, 9}))
}

func allOf(n int) [][]int { return [][]int{cycled(n, upTo(n)), cycled(n, []int{0, 1})} }

// just5184 are few rows more than MaxElements: two pairs of three bells each, turned in all ways and swapped.
func just5184() [][]int {
	return [][]int{
		cycled(12, []int{0, 1, 2}), cycled(12, []int{0, 1}), cycled(12, []int{0, 3}, []int{1, 4}, []int{2, 5}),
		cycled(12, []int{6, 7, 8}), cycled(12, []int{6, 7}), cycled(12, []int{6, 9}, []int{7, 10}, []int{8, 11}),
	}
}

func product(from, to int) int {
	many := 1
	for k := from; k <= to; k++ {
		many *= k
	}
	return many
}

// G1.

type refusal struct {
	name string
	n    int
	gens [][]int
	e    api.Errno
}

func refusals() []refusal {
	rounds := func(n, many int) [][]int { return slices.Repeat([][]int{upTo(n)}, many) }
	return []refusal{
		{"no bells", 0, nil, api.ErrCount},
		{"fewer than none", -1, nil, api.ErrCount},
		{"one bell too many", api.MaxBells + 1, nil, api.ErrCount},
		{"one bell too many, with its row", api.MaxBells + 1, rounds(api.MaxBells+1, 1), api.ErrCount},
		{"the least number", math.MinInt, nil, api.ErrCount},
		{"the greatest number", math.MaxInt, nil, api.ErrCount},
		{"one generator too many", 3, rounds(3, api.MaxGens+1), api.ErrCount},
		{"many too many", 3, rounds(3, 10000), api.ErrCount},
		{"too many, and no row", 2, append([][]int{{0, 0}}, rounds(2, api.MaxGens)...), api.ErrCount},
		{"no bells, and no row", 0, [][]int{{0, 0}}, api.ErrCount},
		{"an empty row", 2, [][]int{{}}, api.ErrCount},
		{"a nil row", 2, [][]int{{1, 0}, nil}, api.ErrCount},
		{"too short a row", 3, [][]int{{1, 0}}, api.ErrCount},
		{"too long a row", 2, [][]int{{0, 1, 2}}, api.ErrCount},
		{"a row longer than may be", 12, [][]int{upTo(13)}, api.ErrCount},
		{"no row", 2, [][]int{{0, 0}}, api.ErrRow},
		{"no row at the end", 2, [][]int{{0, 1}, {1, 0}, {1, 2}}, api.ErrRow},
		{"no row, and too long", 2, [][]int{{0, 0, 0}}, api.ErrRow},
		{"no row, then too long", 2, [][]int{{0, 0}, {0, 1, 2}}, api.ErrRow},
		{"too long, then no row", 2, [][]int{{0, 1, 2}, {0, 0}}, api.ErrCount},
		{"numbers far off", 2, [][]int{{math.MinInt, math.MaxInt}}, api.ErrRow},
		{"MaxGens, the last no row", 2, append(rounds(2, api.MaxGens-1), []int{1, 1}), api.ErrRow},
	}
}

func TestCheckAndMakeRefuse(t *testing.T) {
	for _, c := range refusals() {
		if e := group.Check(c.n, c.gens); e != c.e {
			t.Errorf("%s: Check = %d, want %d", c.name, e, c.e)
		}
		if g, e := group.Make(c.n, c.gens); e != c.e || g != nil {
			t.Errorf("%s: Make = %v, %d, want %d", c.name, g, e, c.e)
		}
	}
}

func TestCheckTakes(t *testing.T) {
	for _, s := range samples() {
		if e := group.Check(s.n, s.gens); e != api.OK {
			t.Errorf("Check(%d, %v) = %d", s.n, s.gens, e)
		}
	}
	for n := 1; n <= api.MaxBells; n++ {
		if e := group.Check(n, nil); e != api.OK {
			t.Errorf("Check(%d, nil) = %d", n, e)
		}
		if e := group.Check(n, slices.Repeat([][]int{upTo(n)}, api.MaxGens)); e != api.OK {
			t.Errorf("Check of MaxGens rows of %d bells: %d", n, e)
		}
	}
}

func TestGroupIsJustWhatComesOfItsGenerators(t *testing.T) {
	for _, s := range samples() {
		g, want := mustMake(t, s.n, s.gens...), comesOf(s.n, s.gens)
		if g.Size() != len(want) || g.Bells() != s.n {
			t.Errorf("%v: Size %d, Bells %d, want %d, %d", s.gens, g.Size(), g.Bells(), len(want), s.n)
		}
		if rows, e := g.Elements(); e != api.OK || !same(rows, want) {
			t.Errorf("%v: Elements = %v, %d, want %v", s.gens, rows, e, want)
		}
	}
}

func TestSizeOfTheDocument(t *testing.T) {
	if g := mustMake(t, 4, []int{1, 2, 3, 0}, []int{3, 2, 1, 0}); g.Size() != 8 {
		t.Errorf("2341 and 4321 generate %d rows", g.Size())
	}
}

func TestSizeOfGreatGroups(t *testing.T) {
	for n := 2; n <= api.MaxBells; n++ {
		if g := mustMake(t, n, allOf(n)...); g.Size() != product(1, n) {
			t.Errorf("all rows of %d bells: %d", n, g.Size())
		}
	}
	var threes, swaps [][]int
	for i := range 8 {
		threes = append(threes, cycled(12, []int{i, i + 1, i + 2 + 2*(i%2)}))
		swaps = append(swaps, cycled(12, []int{i, i + 4}))
	}
	for _, c := range []struct {
		name string
		gens [][]int
		want int
	}{
		{"M11", m11(12), 7920},
		{"M12", m12(), 95040},
		{"all even rows", [][]int{cycled(12, upTo(11)), cycled(12, []int{9, 10, 11})}, product(1, 12) / 2},
		{"eight threes", threes, product(1, 11) / 2},
		{"four times three bells", swaps, 6 * 6 * 6 * 6},
		{"two sixes", [][]int{
			cycled(12, []int{0, 1, 2, 3, 4, 5}), cycled(12, []int{0, 1}),
			cycled(12, []int{0, 6}, []int{1, 7}, []int{2, 8}, []int{3, 9}, []int{4, 10}, []int{5, 11}),
		}, 720 * 720 * 2},
		{"just above MaxElements", just5184(), 5184},
	} {
		if g := mustMake(t, 12, c.gens...); g.Size() != c.want {
			t.Errorf("%s: %d rows, want %d", c.name, g.Size(), c.want)
		}
	}
}

// G2.

func TestHas(t *testing.T) {
	for _, s := range samples() {
		if s.n > 6 {
			continue
		}
		g, want := mustMake(t, s.n, s.gens...), comesOf(s.n, s.gens)
		for _, r := range allRows(s.n) {
			if ok, e := g.Has(r); e != api.OK || ok != holds(want, r) {
				t.Errorf("%v: Has(%v) = %t, %d", s.gens, r, ok, e)
			}
		}
	}
}

func odd(r []int) bool {
	pairs := 0
	for i := range r {
		for j := range i {
			if r[j] > r[i] {
				pairs++
			}
		}
	}
	return pairs%2 == 1
}

func TestHasOfGreatGroups(t *testing.T) {
	all := mustMake(t, 12, allOf(12)...)
	even := mustMake(t, 12, cycled(12, upTo(11)), cycled(12, []int{9, 10, 11}))
	for _, head := range allRows(6) {
		r := append(slices.Clone(head), 7, 11, 6, 9, 8, 10)
		if ok, e := all.Has(r); e != api.OK || !ok {
			t.Errorf("all rows: Has(%v) = %t, %d", r, ok, e)
		}
		if ok, e := even.Has(r); e != api.OK || ok == odd(r) {
			t.Errorf("even rows: Has(%v) = %t, %d", r, ok, e)
		}
	}
}

// Each five bells come to each five places by just one row of M12: so of all rows with these five bells first, one is in it.
func TestHasOfM12(t *testing.T) {
	g := mustMake(t, 12, m12()...)
	for _, head := range [][]int{{0, 1, 2, 3, 4}, {11, 3, 0, 7, 5}, {6, 5, 4, 9, 10}} {
		var rest []int
		for bell := range 12 {
			if !slices.Contains(head, bell) {
				rest = append(rest, bell)
			}
		}
		many := 0
		for _, p := range allRows(7) {
			r := slices.Clone(head)
			for _, i := range p {
				r = append(r, rest[i])
			}
			if ok, _ := g.Has(r); ok {
				many++
			}
		}
		if many != 1 {
			t.Errorf("%d rows of M12 begin with %v", many, head)
		}
	}
}

type wrongRow struct {
	r []int
	e api.Errno
}

// wrongRows are none that a group of three bells may be asked for.
func wrongRows() []wrongRow {
	return []wrongRow{
		{nil, api.ErrCount}, {[]int{}, api.ErrCount}, {upTo(13), api.ErrCount},
		{[]int{0, 1}, api.ErrCount}, {[]int{0, 1, 2, 3}, api.ErrCount},
		{[]int{0, 0, 1}, api.ErrRow}, {[]int{1, 2, 3}, api.ErrRow}, {[]int{0, 0}, api.ErrRow},
		{[]int{0, math.MaxInt, math.MinInt}, api.ErrRow}, {[]int{0, 1, 2, 2}, api.ErrRow},
	}
}

func TestHasAndWordRefuse(t *testing.T) {
	g := mustMake(t, 3, []int{1, 0, 2})
	for _, c := range wrongRows() {
		if ok, e := g.Has(c.r); ok || e != c.e {
			t.Errorf("Has(%v) = %t, %d, want %d", c.r, ok, e, c.e)
		}
		if w, e := g.Word(c.r); len(w) != 0 || e != c.e {
			t.Errorf("Word(%v) = %v, %d, want %d", c.r, w, e, c.e)
		}
	}
}

func TestElementsUpToMaxElements(t *testing.T) {
	g := mustMake(t, 7, allOf(7)...)
	if rows, e := g.Elements(); e != api.OK || !same(rows, allRows(7)) || len(rows) != api.MaxElements {
		t.Errorf("all rows of 7 bells: %d, %d", len(rows), e)
	}
	for name, g := range map[string]*group.Group{
		"5184":             mustMake(t, 12, just5184()...),
		"M11":              mustMake(t, 11, m11(11)...),
		"all of eight":     mustMake(t, 8, allOf(8)...),
		"all of MaxBells":  mustMake(t, 12, allOf(12)...),
		"of 7, and 2 more": mustMake(t, 9, append(m7(), cycled(9, []int{7, 8}))...),
	} {
		if rows, e := g.Elements(); e != api.ErrLimit || len(rows) != 0 {
			t.Errorf("%s: Elements = %d rows, %d", name, len(rows), e)
		}
	}
}

func m7() [][]int { return [][]int{cycled(9, upTo(7)), cycled(9, []int{0, 1})} }

// By the words: a bell is with another just if a row has the one in the other's place.
func TestOrbits(t *testing.T) {
	for _, s := range samples() {
		rows := comesOf(s.n, s.gens)
		var want [][]int
		for bell := range s.n {
			var orbit []int
			for other := range s.n {
				if slices.ContainsFunc(rows, func(r []int) bool { return r[bell] == other }) {
					orbit = append(orbit, other)
				}
			}
			if orbit[0] == bell {
				want = append(want, orbit)
			}
		}
		if orbits := mustMake(t, s.n, s.gens...).Orbits(); !same(orbits, want) {
			t.Errorf("%v: Orbits = %v, want %v", s.gens, orbits, want)
		}
	}
}

func TestOrbitsOfGreatGroups(t *testing.T) {
	if orbits := mustMake(t, 12, allOf(12)...).Orbits(); !same(orbits, [][]int{upTo(12)}) {
		t.Errorf("all rows: %v", orbits)
	}
	want := [][]int{{0, 2, 4, 6, 8, 10}, {1, 3, 5, 7, 9, 11}}
	if orbits := mustMake(t, 12, cycled(12, []int{0, 10, 2, 8, 4, 6}, []int{11, 1, 9, 3, 7, 5}), cycled(12, []int{0, 4})).Orbits(); !same(orbits, want) {
		t.Errorf("odd and even: %v", orbits)
	}
}

// G3.

func saidBy(n int, gens [][]int, word []int) []int {
	r := upTo(n)
	for _, letter := range word {
		if letter > 0 {
			r = changed(r, gens[letter-1])
		} else {
			r = changed(r, undone(gens[-letter-1]))
		}
	}
	return r
}

func TestSay(t *testing.T) {
	gens := [][]int{{1, 2, 3, 0, 4}, {0, 2, 1, 4, 3}, {4, 0, 1, 2, 3}}
	g := mustMake(t, 5, gens...)
	for _, word := range [][]int{nil, {}, {1}, {-1}, {2}, {-2}, {3}, {-3}, {1, 2}, {2, 1}, {1, -2, 3, 3, -1}, {-3, -3, 1, 2, 2, 1}} {
		if r, e := g.Say(word); e != api.OK || !slices.Equal(r, saidBy(5, gens, word)) {
			t.Errorf("Say(%v) = %v, %d, want %v", word, r, e, saidBy(5, gens, word))
		}
	}
}

func TestSayOfManyGenerators(t *testing.T) {
	var gens [][]int
	for i := range api.MaxGens {
		gens = append(gens, cycled(12, []int{i, i + 1, i + 4}))
	}
	g := mustMake(t, 12, gens...)
	for letter := -api.MaxGens - 2; letter <= api.MaxGens+2; letter++ {
		r, e := g.Say([]int{letter})
		if letter == 0 || letter < -api.MaxGens || letter > api.MaxGens {
			if e != api.ErrValue || len(r) != 0 {
				t.Errorf("Say(%d) = %v, %d, want ErrValue", letter, r, e)
			}
		} else if e != api.OK || !slices.Equal(r, saidBy(12, gens, []int{letter})) {
			t.Errorf("Say(%d) = %v, %d", letter, r, e)
		}
	}
}

func TestSayRefuses(t *testing.T) {
	g := mustMake(t, 3, []int{1, 0, 2}, []int{0, 2, 1})
	long := slices.Repeat([]int{1, 2}, api.MaxRows/2)
	for _, c := range []struct {
		name string
		word []int
		e    api.Errno
	}{
		{"the letter 0", []int{0}, api.ErrValue},
		{"0 behind others", []int{1, -2, 0}, api.ErrValue},
		{"one too great", []int{3}, api.ErrValue},
		{"one too low", []int{-3, 1}, api.ErrValue},
		{"the greatest number", []int{1, math.MaxInt}, api.ErrValue},
		{"the least number", []int{math.MinInt, 1}, api.ErrValue},
		{"the least number but one", []int{math.MinInt + 1}, api.ErrValue},
		{"one letter too many", append(slices.Clone(long), 1), api.ErrLimit},
		{"too many, one of them none", append([]int{0}, long...), api.ErrLimit},
		{"MaxRows, the last none", append(slices.Clone(long[1:]), 0), api.ErrValue},
	} {
		if r, e := g.Say(c.word); e != c.e || len(r) != 0 {
			t.Errorf("%s: Say = %v, %d, want %d", c.name, r, e, c.e)
		}
	}
	if r, e := g.Say(long); e != api.OK || !slices.Equal(r, saidBy(3, [][]int{{1, 0, 2}, {0, 2, 1}}, long)) {
		t.Errorf("MaxRows letters: %v, %d", r, e)
	}
	none := mustMake(t, 3)
	for _, letter := range []int{-1, 0, 1, math.MinInt} {
		if r, e := none.Say([]int{letter}); e != api.ErrValue || len(r) != 0 {
			t.Errorf("no generators: Say(%d) = %v, %d", letter, r, e)
		}
	}
	if r, e := none.Say(nil); e != api.OK || !slices.Equal(r, upTo(3)) {
		t.Errorf("no generators: Say of nothing = %v, %d", r, e)
	}
}

// firstWords are the shortest words of all rows, of these the first: each word is tried, in order, length by length.
func firstWords(n int, gens [][]int) map[string][]int {
	var letters []int
	for k := range gens {
		letters = append(letters, k+1, -k-1)
	}
	many, found := len(comesOf(n, gens)), map[string][]int{}
	words := [][]int{nil}
	for len(found) < many {
		var longer [][]int
		for _, w := range words {
			key := fmt.Sprint(saidBy(n, gens, w))
			if _, ok := found[key]; !ok {
				found[key] = w
			}
			for _, letter := range letters {
				longer = append(longer, append(slices.Clone(w), letter))
			}
		}
		words = longer
	}
	return found
}

func TestWordIsTheFirstOfTheShortest(t *testing.T) {
	rows := allRows(4)
	l := []sample{
		{1, nil}, {1, [][]int{{0}}}, {2, [][]int{{0, 1}, {1, 0}, {1, 0}}}, {3, allOf(3)},
		{5, [][]int{{1, 2, 3, 4, 0}}}, {6, [][]int{{1, 2, 0, 4, 3, 5}}},
		{4, [][]int{rows[9], rows[10], rows[18]}}, {4, [][]int{rows[2], rows[8], rows[15]}},
	}
	for i := range rows {
		l = append(l, sample{4, [][]int{rows[i], rows[(7*i+3)%24]}})
	}
	for _, s := range l {
		g, want := mustMake(t, s.n, s.gens...), firstWords(s.n, s.gens)
		for _, r := range allRows(s.n) {
			w, e := g.Word(r)
			if first, ok := want[fmt.Sprint(r)]; !ok {
				if e != api.ErrMember || len(w) != 0 {
					t.Errorf("%v: Word(%v) = %v, %d, want ErrMember", s.gens, r, w, e)
				}
			} else if e != api.OK || !slices.Equal(w, first) {
				t.Errorf("%v: Word(%v) = %v, %d, want %v", s.gens, r, w, e, first)
			}
		}
	}
}

func TestWordOfTheDocument(t *testing.T) {
	g := mustMake(t, 4, []int{1, 2, 3, 0}, []int{3, 2, 1, 0})
	if w, e := g.Word([]int{2, 1, 0, 3}); e != api.OK || !slices.Equal(w, []int{-1, 2}) {
		t.Errorf("Word(3214) = %v, %d", w, e)
	}
}

func TestWordUpToMaxElements(t *testing.T) {
	g := mustMake(t, 7, allOf(7)...)
	for i, r := range allRows(7) {
		if i%63 != 5 {
			continue
		}
		w, e := g.Word(r)
		if said, _ := g.Say(w); e != api.OK || !slices.Equal(said, r) {
			t.Errorf("Word(%v) = %v, %d, which says %v", r, w, e, said)
		}
	}
	// One must go half round to turn 60 rows of one cycle about.
	turn := cycled(12, []int{0, 1, 2}, []int{3, 4, 5, 6}, []int{7, 8, 9, 10, 11})
	ring, half := mustMake(t, 12, turn), slices.Repeat([]int{1}, 30)
	if w, e := ring.Word(saidBy(12, [][]int{turn}, half)); e != api.OK || !slices.Equal(w, half) {
		t.Errorf("half a turn: %v, %d", w, e)
	}
}

func TestWordRefusesInOrder(t *testing.T) {
	for name, c := range map[string]struct {
		gens [][]int
		r    []int
		e    api.Errno
	}{
		"too many, and none of them": {m12(), cycled(12, []int{0, 1}), api.ErrMember},
		"too many":                   {m12(), upTo(12), api.ErrLimit},
		"few too many":               {just5184(), upTo(12), api.ErrLimit},
		"few too many, none of them": {just5184(), cycled(12, []int{0, 11}), api.ErrMember},
		"all, and no row":            {allOf(12), make([]int, 12), api.ErrRow},
		"all, and too short":         {allOf(12), upTo(11), api.ErrCount},
		"few, none of them":          {nil, cycled(12, []int{0, 1}), api.ErrMember},
	} {
		if w, e := mustMake(t, 12, c.gens...).Word(c.r); e != c.e || len(w) != 0 {
			t.Errorf("%s: Word = %v, %d, want %d", name, w, e, c.e)
		}
	}
}

// G4.

func TestStill(t *testing.T) {
	for _, s := range samples() {
		g, rows := mustMake(t, s.n, s.gens...), comesOf(s.n, s.gens)
		for bell := range s.n {
			var want [][]int
			for _, r := range rows {
				if r[bell] == bell {
					want = append(want, r)
				}
			}
			h, e := g.Still(bell)
			if e != api.OK || h == nil {
				t.Fatalf("%v: Still(%d) = %v, %d", s.gens, bell, h, e)
			}
			if got, e := h.Elements(); e != api.OK || !same(got, want) || h.Size() != len(want) || h.Bells() != s.n {
				t.Errorf("%v: Still(%d) has %v, %d, want %v", s.gens, bell, got, e, want)
			}
		}
		if got, e := g.Elements(); e != api.OK || !same(got, rows) {
			t.Errorf("%v: Still changed its group", s.gens)
		}
	}
}

func TestStillOfGreatGroups(t *testing.T) {
	g := mustMake(t, 12, allOf(12)...)
	for left, bell := range []int{5, 11, 0, 7, 1, 10, 2, 9, 3, 8, 4, 6} {
		h, e := g.Still(bell)
		if e != api.OK || h.Size() != product(1, 11-left) || h.Bells() != 12 {
			t.Fatalf("still %d bells: %d rows, %d", left+1, h.Size(), e)
		}
		g = h
	}
	g = mustMake(t, 12, m12()...)
	for i, bell := range []int{3, 8, 11, 0, 5} {
		h, e := g.Still(bell)
		if e != api.OK || h.Size()*(12-i) != g.Size() {
			t.Fatalf("M12, still %d bells: %d rows, %d", i+1, h.Size(), e)
		}
		if ok, e := h.Has(cycled(12, []int{bell, (bell + 1) % 12})); ok || e != api.OK {
			t.Errorf("the bell %d isn't still", bell)
		}
		g = h
	}
}

// A group that Still gave is like any other: words of it say its rows.
func TestStillHasWords(t *testing.T) {
	g := mustMake(t, 7, allOf(7)...)
	h, e := g.Still(3)
	if e != api.OK {
		t.Fatal(e)
	}
	rows, e := h.Elements()
	if e != api.OK || len(rows) != 720 {
		t.Fatal(len(rows), e)
	}
	for _, r := range rows[:100] {
		w, e := h.Word(r)
		if said, _ := h.Say(w); e != api.OK || !slices.Equal(said, r) {
			t.Errorf("Word(%v) = %v, %d", r, w, e)
		}
	}
	if ok, e := g.Normal(h); ok || e != api.OK {
		t.Errorf("Normal = %t, %d", ok, e)
	}
}

func TestStillRefuses(t *testing.T) {
	for n := 1; n <= api.MaxBells; n++ {
		g := mustMake(t, n)
		for _, bell := range []int{math.MinInt, -1, n, n + 1, math.MaxInt} {
			if h, e := g.Still(bell); e != api.ErrValue || h != nil {
				t.Errorf("%d bells: Still(%d) = %v, %d", n, bell, h, e)
			}
		}
	}
}

// By the words: each row of the one group, by each of the other.
func TestNormal(t *testing.T) {
	rows := allRows(4)
	var l []sample
	for i := range rows {
		l = append(l, sample{4, [][]int{rows[i]}}, sample{4, [][]int{rows[i], rows[(5*i+2)%24]}})
	}
	l = append(l, sample{4, nil}, sample{4, [][]int{{1, 0, 3, 2}, {2, 3, 0, 1}}}, sample{4, [][]int{{1, 2, 0, 3}, {0, 2, 3, 1}}})
	for _, big := range l {
		g, xs := mustMake(t, 4, big.gens...), comesOf(4, big.gens)
		for _, small := range l {
			h, ys := mustMake(t, 4, small.gens...), comesOf(4, small.gens)
			want, e := true, api.OK
			for _, y := range ys {
				if !holds(xs, y) {
					want, e = false, api.ErrMember
				}
				for _, x := range xs {
					want = want && holds(ys, changed(changed(x, y), undone(x)))
				}
			}
			if ok, f := g.Normal(h); ok != want || f != e {
				t.Errorf("%v in %v: %t, %d, want %t, %d", small.gens, big.gens, ok, f, want, e)
			}
		}
	}
}

func TestNormalOfGreatGroups(t *testing.T) {
	all, m := mustMake(t, 12, allOf(12)...), mustMake(t, 12, m12()...)
	even := mustMake(t, 12, cycled(12, upTo(11)), cycled(12, []int{9, 10, 11}))
	none := mustMake(t, 12)
	for name, c := range map[string]struct {
		g, h *group.Group
		ok   bool
		e    api.Errno
	}{
		"all in all":      {all, all, true, api.OK},
		"even in all":     {all, even, true, api.OK},
		"none in all":     {all, none, true, api.OK},
		"none in none":    {none, none, true, api.OK},
		"M12 in all":      {all, m, false, api.OK},
		"M12 in even":     {even, m, false, api.OK},
		"all in even":     {even, all, false, api.ErrMember},
		"all in none":     {none, all, false, api.ErrMember},
		"fewer bells":     {all, mustMake(t, 11), false, api.ErrCount},
		"fewer, not of g": {none, mustMake(t, 11, allOf(11)...), false, api.ErrCount},
		"more bells":      {mustMake(t, 11, allOf(11)...), all, false, api.ErrCount},
		"no group":        {all, nil, false, api.ErrCount},
	} {
		if ok, e := c.g.Normal(c.h); ok != c.ok || e != c.e {
			t.Errorf("%s: %t, %d, want %t, %d", name, ok, e, c.ok, c.e)
		}
	}
}

// X1, X2.

// roomy are lists with more behind each in memory, and all of that memory.
func roomy(lists [][]int) (short, whole [][]int) {
	for _, l := range lists {
		w := append(slices.Clone(l), 77, 78, 79)
		short, whole = append(short, w[:len(l)]), append(whole, w)
	}
	return short, whole
}

func copied(lists [][]int) [][]int {
	var c [][]int
	for _, l := range lists {
		c = append(c, slices.Clone(l))
	}
	return c
}

func spoil(lists ...[]int) {
	for _, l := range lists {
		l = l[:cap(l)]
		for i := range l {
			l[i] = -9
		}
	}
}

func TestListsHandedInAreNeitherWrittenNorKept(t *testing.T) {
	own := [][]int{{1, 2, 3, 4, 0}, {1, 0, 2, 3, 4}, {4, 3, 2, 1, 0}}
	gens, whole := roomy(own)
	before := copied(whole)
	g := mustMake(t, 5, gens...)
	group.Check(5, gens)
	r, word := gens[1], []int{1, -2, 3}
	ask := func() string {
		l, e := g.Elements()
		a, f := g.Has([]int{2, 1, 0, 4, 3})
		b, h := g.Word([]int{2, 1, 0, 4, 3})
		c, k := g.Say([]int{1, -3, 2, 2})
		s, _ := g.Still(2)
		m, _ := s.Elements()
		n, q := g.Normal(s)
		return fmt.Sprint(l, e, a, f, b, h, c, k, g.Orbits(), m, n, q, g.Size(), g.Bells())
	}
	first := ask()
	g.Has(r)
	g.Word(r)
	g.Say(word)
	if !same(whole, before) || !slices.Equal(word, []int{1, -2, 3}) {
		t.Errorf("lists are changed: %v", whole)
	}
	spoil(whole...)
	gens[0] = nil
	if again := ask(); again != first {
		t.Errorf("the group hangs on what is done with its generators later")
	}
}

func TestAnswersAreFresh(t *testing.T) {
	g := mustMake(t, 4, []int{1, 2, 3, 0}, []int{3, 2, 1, 0})
	s, _ := g.Still(1)
	for range 2 {
		rows, _ := g.Elements()
		if !same(rows, comesOf(4, [][]int{{1, 2, 3, 0}, {3, 2, 1, 0}})) {
			t.Errorf("Elements = %v", rows)
		}
		still, _ := s.Elements()
		if !same(still, [][]int{{0, 1, 2, 3}, {2, 1, 0, 3}}) {
			t.Errorf("Still's Elements = %v", still)
		}
		said, _ := g.Say(nil)
		word, _ := g.Word([]int{2, 1, 0, 3})
		if !slices.Equal(said, upTo(4)) || !slices.Equal(word, []int{-1, 2}) {
			t.Errorf("Say = %v, Word = %v", said, word)
		}
		orbits := g.Orbits()
		if !same(orbits, [][]int{{0, 1, 2, 3}}) {
			t.Errorf("Orbits = %v", orbits)
		}
		spoil(rows...)
		spoil(still...)
		spoil(orbits...)
		spoil(said, word)
	}
}

func TestListsOfOneAnswerShareNoMemory(t *testing.T) {
	g := mustMake(t, 6, []int{1, 0, 2, 3, 4, 5}, []int{0, 1, 3, 4, 2, 5})
	rows, _ := g.Elements()
	for name, c := range map[string]struct{ lists, want [][]int }{
		"Elements": {rows, copied(rows)},
		"Orbits":   {g.Orbits(), [][]int{{0, 1}, {2, 3, 4}, {5}}},
	} {
		for i, l := range c.lists {
			if !slices.Equal(l, c.want[i]) {
				t.Errorf("%s: the list %d is %v, want %v", name, i, l, c.want[i])
			}
			spoil(l)
		}
	}
}
