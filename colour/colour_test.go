package colour_test

import (
	"fmt"
	"math"
	"slices"
	"testing"

	"campanile/api"
	"campanile/colour"
)

// upTo is 0, 1, .., n - 1, whether such a row may be or not.
func upTo(n int) []int {
	r := make([]int, n)
	for i := range r {
		r[i] = i
	}
	return r
}

// cycled is the row of n bells with these cycles.
func cycled(n int, cycles ...[]int) []int {
	r := upTo(n)
	for _, c := range cycles {
		for i, bell := range c {
			r[bell] = c[(i+1)%len(c)]
		}
	}
	return r
}

func changed(a, b []int) []int {
	r := make([]int, len(a))
	for i, place := range b {
		r[i] = a[place]
	}
	return r
}

// comesOf are all rows that come of gens.
func comesOf(n int, gens [][]int) [][]int {
	rows := [][]int{upTo(n)}
	seen := map[string]bool{fmt.Sprint(upTo(n)): true}
	for i := 0; i < len(rows); i++ {
		for _, g := range gens {
			r := changed(rows[i], g)
			if key := fmt.Sprint(r); !seen[key] {
				seen[key] = true
				rows = append(rows, r)
			}
		}
	}
	return rows
}

// someOf is all rows of the first few of n bells.
func someOf(n, few int) [][]int { return [][]int{cycled(n, upTo(few)), cycled(n, []int{0, 1})} }

// just5184 are few rows more than MaxElements: two pairs of three bells each, turned in all ways and swapped.
func just5184() [][]int {
	return [][]int{
		cycled(12, []int{0, 1, 2}), cycled(12, []int{0, 1}), cycled(12, []int{0, 3}, []int{1, 4}, []int{2, 5}),
		cycled(12, []int{6, 7, 8}), cycled(12, []int{6, 7}), cycled(12, []int{6, 9}, []int{7, 10}, []int{8, 11}),
	}
}

func same(a, b [][]int) bool { return slices.EqualFunc(a, b, slices.Equal[[]int]) }

func sameKinds(a, b []api.Kind) bool {
	return slices.EqualFunc(a, b, func(x, y api.Kind) bool {
		return x.Many == y.Many && slices.Equal(x.Cycles, y.Cycles)
	})
}

// sample: generators whose groups and colourings are few enough to be gone through.
type sample struct {
	n    int
	gens [][]int
}

func samples() []sample {
	l := []sample{
		{1, nil}, {1, [][]int{{0}}}, {2, nil}, {2, [][]int{{1, 0}}}, {3, [][]int{}},
		{3, [][]int{{1, 2, 0}}}, {3, [][]int{{2, 0, 1}, {0, 2, 1}}}, {4, nil},
		{4, [][]int{{1, 2, 3, 0}}}, {4, [][]int{{3, 2, 1, 0}}}, {4, [][]int{{1, 0, 2, 3}, {0, 1, 3, 2}}},
		{4, someOf(4, 4)}, {4, [][]int{{1, 2, 0, 3}, {1, 0, 3, 2}}}, {5, [][]int{{1, 2, 3, 4, 0}}},
		{5, [][]int{{2, 0, 1, 4, 3}}}, {5, someOf(5, 5)}, {5, [][]int{{1, 2, 0, 3, 4}, {0, 1, 3, 4, 2}}},
		{6, [][]int{{1, 2, 3, 4, 5, 0}, {5, 4, 3, 2, 1, 0}}}, {6, [][]int{{1, 2, 0, 4, 3, 5}}},
		{6, someOf(6, 3)}, {6, slices.Repeat([][]int{{0, 1, 2, 3, 5, 4}}, api.MaxGens)},
		{7, [][]int{cycled(7, []int{0, 2, 4, 6}, []int{1, 3})}},
	}
	for a := range 24 {
		r := []int{a / 6, 0, 0, 0}
		left := slices.DeleteFunc(upTo(4), func(bell int) bool { return bell == r[0] })
		for i, k := range []int{a / 2 % 3, a % 2, 0} {
			r[i+1] = left[k]
			left = slices.Delete(left, k, k+1)
		}
		l = append(l, sample{4, [][]int{r, {0, 2, 1, 3}}}, sample{4, [][]int{r}})
	}
	return l
}

// kindsOf are the kinds of rows, by the words of the promise.
func kindsOf(rows [][]int) []api.Kind {
	var lists [][]int
	for _, r := range rows {
		list, done := make([]int, len(r)), make([]bool, len(r))
		for bell := range r {
			long := 0
			for ; !done[bell]; bell = r[bell] {
				done[bell] = true
				long++
			}
			if long > 0 {
				list[long-1]++
			}
		}
		lists = append(lists, list)
	}
	slices.SortFunc(lists, slices.Compare[[]int])
	var kinds []api.Kind
	for i, list := range lists {
		if i == 0 || !slices.Equal(list, lists[i-1]) {
			kinds = append(kinds, api.Kind{Cycles: list})
		}
		kinds[len(kinds)-1].Many++
	}
	return kinds
}

// colourings are all there are, in order.
func colourings(n, colours int) [][]int {
	all := [][]int{{}}
	for range n {
		var more [][]int
		for _, c := range all {
			for k := range colours {
				more = append(more, append(slices.Clone(c), k))
			}
		}
		all = more
	}
	return all
}

// firstsOf are, in order, those colourings to which none ahead is alike, by the words of the promise.
func firstsOf(rows [][]int, n, colours int) [][]int {
	var firsts [][]int
	alike := map[string]bool{}
	for _, c := range colourings(n, colours) {
		if alike[fmt.Sprint(c)] {
			continue
		}
		firsts = append(firsts, c)
		for _, r := range rows {
			other := make([]int, n)
			for i, k := range r {
				other[i] = c[k]
			}
			alike[fmt.Sprint(other)] = true
		}
	}
	return firsts
}

func howMany(c []int, colours int) []int {
	many := make([]int, colours)
	for _, k := range c {
		many[k]++
	}
	return many
}

// splits are all lists of so many numbers that are n together.
func splits(n, colours int) [][]int {
	var all [][]int
	for _, many := range colourings(colours, n+1) {
		together := 0
		for _, places := range many {
			together += places
		}
		if together == n {
			all = append(all, many)
		}
	}
	return all
}

// K1.

func TestKindsOfSamples(t *testing.T) {
	for _, s := range samples() {
		want := kindsOf(comesOf(s.n, s.gens))
		if kinds, e := colour.Kinds(s.n, s.gens); e != api.OK || !sameKinds(kinds, want) {
			t.Errorf("Kinds(%d, %v) = %v, %d, want %v", s.n, s.gens, kinds, e, want)
		}
	}
}

func TestKindsInOrder(t *testing.T) {
	ring := [][]int{{1, 2, 3, 4, 5, 0}, {5, 4, 3, 2, 1, 0}}
	for name, c := range map[string]struct {
		n    int
		gens [][]int
		want []api.Kind
	}{
		"one bell": {1, nil, []api.Kind{{Cycles: []int{1}, Many: 1}}},
		"MaxBells, no generator": {12, nil, []api.Kind{
			{Cycles: []int{12, 0, 0, 0, 0, 0, 0, 0, 0, 0, 0, 0}, Many: 1}}},
		"MaxBells in a ring": {12, [][]int{cycled(12, upTo(12))}, []api.Kind{
			{Cycles: []int{0, 0, 0, 0, 0, 0, 0, 0, 0, 0, 0, 1}, Many: 4},
			{Cycles: []int{0, 0, 0, 0, 0, 2, 0, 0, 0, 0, 0, 0}, Many: 2},
			{Cycles: []int{0, 0, 0, 3, 0, 0, 0, 0, 0, 0, 0, 0}, Many: 2},
			{Cycles: []int{0, 0, 4, 0, 0, 0, 0, 0, 0, 0, 0, 0}, Many: 2},
			{Cycles: []int{0, 6, 0, 0, 0, 0, 0, 0, 0, 0, 0, 0}, Many: 1},
			{Cycles: []int{12, 0, 0, 0, 0, 0, 0, 0, 0, 0, 0, 0}, Many: 1}}},
		"six in a ring, turned over": {6, ring, []api.Kind{
			{Cycles: []int{0, 0, 0, 0, 0, 1}, Many: 2},
			{Cycles: []int{0, 0, 2, 0, 0, 0}, Many: 2},
			{Cycles: []int{0, 3, 0, 0, 0, 0}, Many: 4},
			{Cycles: []int{2, 2, 0, 0, 0, 0}, Many: 3},
			{Cycles: []int{6, 0, 0, 0, 0, 0}, Many: 1}}},
	} {
		if kinds, e := colour.Kinds(c.n, c.gens); e != api.OK || !sameKinds(kinds, c.want) {
			t.Errorf("%s: Kinds = %v, %d, want %v", name, kinds, e, c.want)
		}
	}
}

func TestKindsOfMaxElementsRows(t *testing.T) {
	for _, n := range []int{7, 12} {
		want := kindsOf(comesOf(n, someOf(n, 7)))
		kinds, e := colour.Kinds(n, someOf(n, 7))
		if e != api.OK || len(kinds) != 15 || !sameKinds(kinds, want) {
			t.Errorf("all rows of seven of %d bells: Kinds = %v, %d, want %v", n, kinds, e, want)
		}
	}
}

type refusal struct {
	name string
	n    int
	gens [][]int
	e    api.Errno
}

func refusals() []refusal {
	rounds := func(n, many int) [][]int { return slices.Repeat([][]int{upTo(n)}, many) }
	return []refusal{
		{"no bells", 0, nil, api.ErrCount},
		{"fewer than none", -1, nil, api.ErrCount},
		{"one bell too many", api.MaxBells + 1, nil, api.ErrCount},
		{"the greatest number", math.MaxInt, nil, api.ErrCount},
		{"one generator too many", 3, rounds(3, api.MaxGens+1), api.ErrCount},
		{"too many, and no row", 2, append([][]int{{0, 0}}, rounds(2, api.MaxGens)...), api.ErrCount},
		{"an empty row", 2, [][]int{{}}, api.ErrCount},
		{"too short a row", 3, [][]int{{1, 0}}, api.ErrCount},
		{"too long a row", 2, [][]int{{0, 1, 2}}, api.ErrCount},
		{"no row", 2, [][]int{{0, 0}}, api.ErrRow},
		{"no row at the end", 2, [][]int{{0, 1}, {1, 0}, {1, 2}}, api.ErrRow},
		{"no row, and too long", 2, [][]int{{0, 0, 0}}, api.ErrRow},
		{"no row, too many made by the others", 8, append(someOf(8, 8), make([]int, 8)), api.ErrRow},
		{"too short, too many made by the others", 8, append(someOf(8, 8), upTo(7)), api.ErrCount},
		{"all rows of eight bells", 8, someOf(8, 8), api.ErrLimit},
		{"all rows of MaxBells", 12, someOf(12, 12), api.ErrLimit},
		{"few more than MaxElements", 12, just5184(), api.ErrLimit},
	}
}

func TestKindsRefuses(t *testing.T) {
	for _, c := range refusals() {
		if kinds, e := colour.Kinds(c.n, c.gens); e != c.e || len(kinds) != 0 {
			t.Errorf("%s: Kinds = %v, %d, want %d", c.name, kinds, e, c.e)
		}
	}
}

// K2.

func TestCountAndPatternsOfSamples(t *testing.T) {
	for _, s := range samples() {
		rows := comesOf(s.n, s.gens)
		for colours := 0; colours <= api.MaxColours; colours++ {
			all := int(math.Pow(float64(colours), float64(s.n)))
			if all > 1300 {
				break
			}
			want := firstsOf(rows, s.n, colours)
			if many, e := colour.Count(s.n, s.gens, colours); e != api.OK || many != len(want) {
				t.Errorf("Count(%d, %v, %d) = %d, %d, want %d", s.n, s.gens, colours, many, e, len(want))
			}
			if l, e := colour.Patterns(s.n, s.gens, colours); e != api.OK || !same(l, want) {
				t.Errorf("Patterns(%d, %v, %d) = %v, %d, want %v", s.n, s.gens, colours, l, e, want)
			}
		}
	}
}

func TestWithOfSamples(t *testing.T) {
	for _, s := range samples() {
		rows := comesOf(s.n, s.gens)
		for colours := 1; colours <= 3; colours++ {
			firsts := firstsOf(rows, s.n, colours)
			for _, many := range splits(s.n, colours) {
				want := 0
				for _, c := range firsts {
					if slices.Equal(howMany(c, colours), many) {
						want++
					}
				}
				if got, e := colour.With(s.n, s.gens, many); e != api.OK || got != want {
					t.Errorf("With(%d, %v, %v) = %d, %d, want %d", s.n, s.gens, many, got, e, want)
				}
			}
		}
	}
}

// choose is how many lists of k places there are among n.
func choose(n, k int) int {
	many := 1
	for i := range k {
		many = many * (n - i) / (i + 1)
	}
	return many
}

func TestCountAtTheEdges(t *testing.T) {
	ring := [][]int{cycled(12, upTo(12))}
	over := [][]int{{1, 2, 3, 4, 5, 0}, {5, 4, 3, 2, 1, 0}}
	for _, c := range []struct {
		name       string
		n          int
		gens       [][]int
		colours, w int
	}{
		{"the document's", 6, over, 2, 13},
		{"six in a ring", 6, over[:1], 2, 14},
		{"no colour", 6, over, 0, 0},
		{"no colour, one bell", 1, nil, 0, 0},
		{"no colour, MaxBells", 12, nil, 0, 0},
		{"one colour", 6, over, 1, 1},
		{"one colour, MaxElements rows", 7, someOf(7, 7), 1, 1},
		{"one bell, MaxColours", 1, nil, api.MaxColours, api.MaxColours},
		{"MaxBells, no generator", 12, nil, 8, 68719476736},
		{"MaxBells, one colour fewer", 12, nil, 7, 13841287201},
		{"MaxBells in a ring", 12, ring, 8, (68719476736 + 262144 + 2*4096 + 2*512 + 2*64 + 4*8) / 12},
		{"MaxElements rows", 7, someOf(7, 7), 8, choose(14, 7)},
		{"MaxElements rows of MaxBells", 12, someOf(12, 7), 8, choose(14, 7) * 32768},
	} {
		if many, e := colour.Count(c.n, c.gens, c.colours); e != api.OK || many != c.w {
			t.Errorf("%s: Count = %d, %d, want %d", c.name, many, e, c.w)
		}
	}
}

func TestWithAtTheEdges(t *testing.T) {
	ring := [][]int{cycled(12, upTo(12))}
	over := [][]int{{1, 2, 3, 4, 5, 0}, {5, 4, 3, 2, 1, 0}}
	for _, c := range []struct {
		name string
		n    int
		gens [][]int
		many []int
		want int
	}{
		{"six in a ring, three of each", 6, over, []int{3, 3}, 3},
		{"noughts ahead, between and behind", 6, over, []int{0, 3, 0, 0, 3, 0, 0, 0}, 3},
		{"one colour", 6, over, []int{6}, 1},
		{"one colour, seven noughts", 6, over, []int{0, 0, 0, 0, 0, 0, 0, 6}, 1},
		{"one bell", 1, nil, []int{1}, 1},
		{"one bell, and noughts", 1, [][]int{{0}}, []int{0, 1, 0}, 1},
		{"MaxBells, no generator", 12, nil, []int{2, 1, 2, 1, 2, 1, 2, 1}, 29937600},
		{"MaxBells in a ring", 12, ring, []int{2, 1, 2, 1, 2, 1, 2, 1}, 29937600 / 12},
		{"MaxBells in a ring, halves", 12, ring, []int{6, 6}, (924 + 20 + 2*6 + 2*2 + 0) / 12},
		{"MaxBells in a ring, thirds", 12, ring, []int{4, 4, 4}, (34650 + 90 + 2*6) / 12},
		{"MaxElements rows", 7, someOf(7, 7), []int{1, 1, 1, 1, 1, 1, 1, 0}, 1},
		{"MaxElements rows of MaxBells", 12, someOf(12, 7), []int{6, 6}, 32},
	} {
		if many, e := colour.With(c.n, c.gens, c.many); e != api.OK || many != c.want {
			t.Errorf("%s: With = %d, %d, want %d", c.name, many, e, c.want)
		}
	}
}

func TestWithOfAllSplitsIsCount(t *testing.T) {
	gens := [][]int{cycled(9, []int{0, 1, 2}, []int{3, 4}), cycled(9, []int{5, 6, 7, 8})}
	for colours := 1; colours <= 4; colours++ {
		together := 0
		for _, many := range splits(9, colours) {
			w, _ := colour.With(9, gens, many)
			together += w
		}
		if all, e := colour.Count(9, gens, colours); e != api.OK || all != together {
			t.Errorf("%d colours: Count = %d, %d, all of With together %d", colours, all, e, together)
		}
	}
}

func TestPatternsAtTheEdges(t *testing.T) {
	for _, c := range []struct {
		name             string
		n                int
		gens             [][]int
		colours, want    int
		firstOne, lastOf []int
	}{
		{"one bell, MaxColours", 1, nil, 8, 8, []int{0}, []int{7}},
		{"one colour, MaxElements rows", 7, someOf(7, 7), 1, 1, make([]int, 7), make([]int, 7)},
		{"one colour, MaxBells", 12, nil, 1, 1, make([]int, 12), make([]int, 12)},
		{"4096 colourings", 12, nil, 2, 4096, make([]int, 12), slices.Repeat([]int{1}, 12)},
		{"4096 by MaxColours", 4, nil, 8, 4096, make([]int, 4), []int{7, 7, 7, 7}},
		{"4096 in a ring", 12, [][]int{cycled(12, upTo(12))}, 2, 352, make([]int, 12), slices.Repeat([]int{1}, 12)},
		{"MaxElements rows", 7, someOf(7, 7), 3, 36, make([]int, 7), slices.Repeat([]int{2}, 7)},
		{"MaxElements rows, 4096 colourings", 12, someOf(12, 7), 2, 256, make([]int, 12), slices.Repeat([]int{1}, 12)},
	} {
		l, e := colour.Patterns(c.n, c.gens, c.colours)
		if e != api.OK || len(l) != c.want || !slices.Equal(l[0], c.firstOne) || !slices.Equal(l[len(l)-1], c.lastOf) {
			t.Errorf("%s: %d patterns, %d, want %d", c.name, len(l), e, c.want)
		}
		if !slices.IsSortedFunc(l, slices.Compare[[]int]) {
			t.Errorf("%s: not in order", c.name)
		}
	}
	for _, n := range []int{1, 5, 12} {
		if l, e := colour.Patterns(n, nil, 0); e != api.OK || len(l) != 0 {
			t.Errorf("no colour for %d places: %v, %d", n, l, e)
		}
	}
}

func TestCountAndPatternsRefuse(t *testing.T) {
	for _, c := range refusals() {
		for _, colours := range []int{math.MinInt, -1, 0, 1, api.MaxColours, api.MaxColours + 1, math.MaxInt} {
			want := c.e
			if colours < 0 || colours > api.MaxColours {
				want = api.ErrValue
			}
			if many, e := colour.Count(c.n, c.gens, colours); e != want || many != 0 {
				t.Errorf("%s, %d colours: Count = %d, %d, want %d", c.name, colours, many, e, want)
			}
			if l, e := colour.Patterns(c.n, c.gens, colours); e != want || len(l) != 0 {
				t.Errorf("%s, %d colours: Patterns = %v, %d, want %d", c.name, colours, l, e, want)
			}
		}
	}
	for _, colours := range []int{-1, api.MaxColours + 1} {
		many, e := colour.Count(3, nil, colours)
		l, f := colour.Patterns(3, nil, colours)
		if many != 0 || len(l) != 0 || e != api.ErrValue || f != api.ErrValue {
			t.Errorf("%d colours: %d, %d; %v, %d", colours, many, e, l, f)
		}
	}
}

func TestPatternsOfTooManyColourings(t *testing.T) {
	for _, c := range []struct{ n, colours int }{{8, 3}, {7, 4}, {6, 5}, {5, 6}, {5, 7}, {5, 8}, {12, 3}, {12, 8}} {
		for _, gens := range [][][]int{nil, {upTo(c.n)}, {cycled(c.n, upTo(c.n))}} {
			if l, e := colour.Patterns(c.n, gens, c.colours); e != api.ErrLimit || len(l) != 0 {
				t.Errorf("%d places, %d colours: %v, %d", c.n, c.colours, l, e)
			}
		}
		if l, e := colour.Patterns(c.n, [][]int{make([]int, c.n)}, c.colours); e != api.ErrRow || len(l) != 0 {
			t.Errorf("%d places, %d colours, no row: %v, %d", c.n, c.colours, l, e)
		}
	}
}

func TestWithRefuses(t *testing.T) {
	noRow := [][]int{{0, 0}}
	nine := make([]int, api.MaxColours+1)
	for _, c := range []struct {
		name string
		n    int
		gens [][]int
		many []int
		e    api.Errno
	}{
		{"no colour", 2, nil, nil, api.ErrCount},
		{"too few places", 3, nil, []int{1, 1}, api.ErrCount},
		{"too many places", 3, nil, []int{2, 2}, api.ErrCount},
		{"noughts alone", 3, nil, []int{0, 0}, api.ErrCount},
		{"nine numbers", 3, nil, append([]int{3}, nine[:8]...), api.ErrValue},
		{"nine noughts", 3, nil, nine, api.ErrValue},
		{"nine noughts, and no row", 2, noRow, nine, api.ErrValue},
		{"a great many", 3, nil, make([]int, 100000), api.ErrValue},
		{"below 0", 3, nil, []int{4, -1}, api.ErrValue},
		{"below 0, and as many as wanted", 3, nil, []int{2, -1, 2}, api.ErrValue},
		{"below 0, and too few", 3, nil, []int{1, 1, -1}, api.ErrValue},
		{"above n", 3, nil, []int{4}, api.ErrValue},
		{"too many ahead of one above n", 3, nil, []int{3, 3, 4}, api.ErrValue},
		{"above n, and no row", 2, noRow, []int{3}, api.ErrValue},
		{"too few, and no row", 2, noRow, []int{1}, api.ErrCount},
		{"no row", 2, noRow, []int{1, 1}, api.ErrRow},
		{"too few, and too many rows", 12, just5184(), []int{6, 5}, api.ErrCount},
		{"below 0, and too many rows", 12, just5184(), []int{6, -6}, api.ErrValue},
		{"too many rows", 12, just5184(), []int{6, 6}, api.ErrLimit},
		{"all rows of eight bells", 8, someOf(8, 8), []int{8}, api.ErrLimit},
		{"no bells", 0, nil, nil, api.ErrCount},
		{"no bells, noughts", 0, nil, []int{0, 0}, api.ErrCount},
		{"no bells, one place", 0, nil, []int{1}, api.ErrValue},
		{"fewer than none", -1, nil, nil, api.ErrCount},
		{"a nought above n", -1, nil, []int{0}, api.ErrValue},
		{"one bell too many", 13, nil, []int{13}, api.ErrCount},
		{"far too many", math.MaxInt, nil, []int{math.MaxInt, math.MaxInt, 1, 1}, api.ErrCount},
		{"far too many, as the sum wraps round", math.MaxInt, nil, []int{math.MaxInt, math.MaxInt, math.MaxInt, 2}, api.ErrCount},
		{"the least number", 3, nil, []int{math.MinInt}, api.ErrValue},
		{"the greatest number", 3, nil, []int{math.MaxInt}, api.ErrValue},
	} {
		if many, e := colour.With(c.n, c.gens, c.many); e != c.e || many != 0 {
			t.Errorf("%s: With = %d, %d, want %d", c.name, many, e, c.e)
		}
	}
	for _, c := range refusals() {
		many := []int{c.n}
		if c.n < 0 {
			many = nil
		}
		if many, e := colour.With(c.n, c.gens, many); e != c.e || many != 0 {
			t.Errorf("%s: With = %d, %d, want %d", c.name, many, e, c.e)
		}
	}
}

// X2.

// roomy are lists with more behind each in memory, and all of that memory.
func roomy(lists [][]int) (short, whole [][]int) {
	for _, l := range lists {
		w := append(slices.Clone(l), 77, 78, 79)
		short, whole = append(short, w[:len(l)]), append(whole, w)
	}
	return short, whole
}

func copied(lists [][]int) [][]int {
	var c [][]int
	for _, l := range lists {
		c = append(c, slices.Clone(l))
	}
	return c
}

func spoil(l []int) {
	l = l[:cap(l)]
	for i := range l {
		l[i] = -9
	}
}

func TestListsHandedInAreNeitherWrittenNorKept(t *testing.T) {
	own := [][]int{{1, 2, 3, 4, 0}, {4, 3, 2, 1, 0}, {2, 0, 3}}
	lists, whole := roomy(own)
	before := copied(whole)
	gens, many := lists[:2], lists[2]
	ask := func() string {
		k, e := colour.Kinds(5, gens)
		c, f := colour.Count(5, gens, 3)
		w, g := colour.With(5, gens, many)
		p, h := colour.Patterns(5, gens, 2)
		return fmt.Sprint(k, e, c, f, w, g, p, h)
	}
	first := ask()
	if !same(whole, before) {
		t.Errorf("lists are changed: %v", whole)
	}
	if again := ask(); again != first {
		t.Errorf("asked again: %s, first %s", again, first)
	}
}

func TestAnswersAreFreshAndShareNoMemory(t *testing.T) {
	gens := [][]int{{1, 2, 3, 0}, {3, 2, 1, 0}}
	wantKinds, wantPatterns := kindsOf(comesOf(4, gens)), firstsOf(comesOf(4, gens), 4, 3)
	for range 2 {
		kinds, _ := colour.Kinds(4, gens)
		for i, kind := range kinds {
			if !slices.Equal(kind.Cycles, wantKinds[i].Cycles) {
				t.Errorf("the kind %d is %v, want %v", i, kind.Cycles, wantKinds[i].Cycles)
			}
			spoil(kind.Cycles)
		}
		patterns, _ := colour.Patterns(4, gens, 3)
		for i, p := range patterns {
			if !slices.Equal(p, wantPatterns[i]) {
				t.Errorf("the pattern %d is %v, want %v", i, p, wantPatterns[i])
			}
			spoil(p)
		}
	}
}
