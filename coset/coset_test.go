package coset_test

import (
	"fmt"
	"math"
	"slices"
	"testing"

	"campanile/api"
	"campanile/coset"
)

// upTo is 0, 1, .., n - 1, whether such a row may be or not.
func upTo(n int) []int {
	r := make([]int, n)
	for i := range r {
		r[i] = i
	}
	return r
}

// cycled is the row of n bells with these cycles.
func cycled(n int, cycles ...[]int) []int {
	r := upTo(n)
	for _, c := range cycles {
		for i, bell := range c {
			r[bell] = c[(i+1)%len(c)]
		}
	}
	return r
}

func changed(a, b []int) []int {
	r := make([]int, len(a))
	for i, place := range b {
		r[i] = a[place]
	}
	return r
}

func undone(r []int) []int {
	back := make([]int, len(r))
	for place, bell := range r {
		back[bell] = place
	}
	return back
}

// allRows are all rows of n bells, in order.
func allRows(n int) [][]int {
	var all [][]int
	var grow func(r []int)
	grow = func(r []int) {
		if len(r) == n {
			all = append(all, slices.Clone(r))
			return
		}
		for bell := range n {
			if !slices.Contains(r, bell) {
				grow(append(r, bell))
			}
		}
	}
	grow(nil)
	return all
}

// comesOf are all rows that come of gens.
func comesOf(n int, gens [][]int) [][]int {
	rows := [][]int{upTo(n)}
	seen := map[string]bool{fmt.Sprint(upTo(n)): true}
	for i := 0; i < len(rows); i++ {
		for _, g := range gens {
			r := changed(rows[i], g)
			if key := fmt.Sprint(r); !seen[key] {
				seen[key] = true
				rows = append(rows, r)
			}
		}
	}
	return rows
}

func same(a, b [][]int) bool { return slices.EqualFunc(a, b, slices.Equal[[]int]) }

// cut is what a table should be, by the words of the promises.
type cut struct {
	of          map[string]int
	next, words [][]int
}

func cutBy(n int, gens, subs [][]int) cut {
	h := comesOf(n, subs)
	c := cut{of: map[string]int{}}
	var rows [][]int
	number := func(r, word []int) int {
		if part, ok := c.of[fmt.Sprint(r)]; ok {
			return part
		}
		for _, y := range h {
			c.of[fmt.Sprint(changed(y, r))] = len(rows)
		}
		rows, c.words = append(rows, r), append(c.words, word)
		return len(rows) - 1
	}
	number(upTo(n), nil)
	for part := 0; part < len(rows); part++ {
		var leads []int
		for k, g := range gens {
			word := c.words[part]
			leads = append(leads, number(changed(rows[part], g), append(slices.Clone(word), k+1)))
			leads = append(leads, number(changed(rows[part], undone(g)), append(slices.Clone(word), -k-1)))
		}
		c.next = append(c.next, leads)
	}
	return c
}

type sample struct {
	n          int
	gens, subs [][]int
}

// samples: each subs are of the group of gens.
func samples() []sample {
	l := []sample{
		{1, nil, nil}, {1, [][]int{{0}}, [][]int{{0}}}, {2, nil, nil}, {2, [][]int{{1, 0}}, nil},
		{2, [][]int{{0, 1}, {1, 0}}, [][]int{{1, 0}}}, {3, [][]int{{1, 2, 0}, {1, 0, 2}}, nil},
		{3, [][]int{{1, 2, 0}, {1, 0, 2}}, [][]int{{1, 2, 0}}}, {api.MaxBells, nil, nil},
		{api.MaxBells, [][]int{cycled(12, []int{0, 1, 2}, []int{3, 4, 5, 6}, []int{7, 8, 9, 10, 11})}, [][]int{cycled(12, []int{3, 5}, []int{4, 6})}},
		{6, [][]int{{1, 2, 3, 4, 5, 0}, {1, 0, 2, 3, 4, 5}}, [][]int{{0, 1, 3, 4, 5, 2}, {0, 1, 3, 2, 4, 5}}},
		{6, [][]int{{1, 2, 3, 4, 5, 0}, {1, 0, 2, 3, 4, 5}}, [][]int{{1, 2, 3, 4, 5, 0}, {5, 4, 3, 2, 1, 0}}},
		{6, [][]int{{1, 2, 3, 4, 5, 0}, {1, 0, 2, 3, 4, 5}}, nil},
		{5, slices.Repeat([][]int{{1, 2, 3, 4, 0}, {4, 3, 2, 1, 0}}, api.MaxGens/2), slices.Repeat([][]int{{4, 3, 2, 1, 0}}, api.MaxGens)},
	}
	rows := allRows(4)
	for i := range rows {
		gens := [][]int{rows[i], rows[(7*i+10)%24]}
		whole := comesOf(4, gens)
		for k := range whole {
			l = append(l, sample{4, gens, [][]int{whole[k]}})
		}
		l = append(l, sample{4, gens, [][]int{whole[len(whole)/2], whole[len(whole)-1]}}, sample{4, gens, gens}, sample{4, gens[:1], nil})
	}
	return l
}

func mustMake(t *testing.T, s sample) *coset.Table {
	t.Helper()
	table, e := coset.Make(s.n, s.gens, s.subs)
	if e != api.OK || table == nil {
		t.Fatalf("Make(%d, %v, %v) = %v, %d", s.n, s.gens, s.subs, table, e)
	}
	return table
}

func m11(n int) [][]int {
	return [][]int{
		cycled(n, []int{0, 1, 2, 3, 4, 5, 6, 7, 8, 9, 10}),
		cycled(n, []int{2, 6, 10, 7}, []int{3, 9, 4, 5}),
	}
}

func allOf(n int) [][]int { return [][]int{cycled(n, upTo(n)), cycled(n, []int{0, 1})} }

// fano, on seven bells of n, makes 168 rows; with all rows of three bells more, 1008.
func fano(n int) [][]int {
	return [][]int{cycled(n, upTo(7)), cycled(n, []int{0, 1}, []int{2, 5})}
}

func just1008() [][]int {
	return append(fano(12), cycled(12, []int{7, 8, 9}), cycled(12, []int{7, 8}))
}

// just972 are four threes, each turned alone, three of them brought round, and some of them, by two, turned over.
func just972() [][]int {
	return [][]int{
		cycled(12, []int{0, 1, 2}), cycled(12, []int{9, 10, 11}),
		cycled(12, []int{0, 3, 6}, []int{1, 4, 7}, []int{2, 5, 8}),
		cycled(12, []int{9, 10}), cycled(12, []int{0, 1}, []int{3, 4}, []int{6, 7}),
	}
}

// C1, C2.

func TestPartsAreAsTheWordsSay(t *testing.T) {
	for _, s := range samples() {
		table, want := mustMake(t, s), cutBy(s.n, s.gens, s.subs)
		next, words := table.All()
		if !same(next, want.next) {
			t.Errorf("%v by %v: next = %v, want %v", s.gens, s.subs, next, want.next)
		}
		if !same(words, want.words) {
			t.Errorf("%v by %v: words = %v, want %v", s.gens, s.subs, words, want.words)
		}
		rows := comesOf(s.n, s.gens)
		if s.n <= 6 {
			rows = allRows(s.n)
		}
		for _, r := range rows {
			part, e := table.Of(r)
			if k, ok := want.of[fmt.Sprint(r)]; ok && (part != k || e != api.OK) {
				t.Errorf("%v by %v: Of(%v) = %d, %d, want %d", s.gens, s.subs, r, part, e, k)
			} else if !ok && (part != 0 || e != api.ErrMember) {
				t.Errorf("%v by %v: Of(%v) = %d, %d, want ErrMember", s.gens, s.subs, r, part, e)
			}
		}
	}
}

func TestPartsOfTheDocument(t *testing.T) {
	next, words := mustMake(t, sample{3, [][]int{{1, 0, 2}, {0, 2, 1}}, [][]int{{1, 0, 2}}}).All()
	if !same(next, [][]int{{0, 0, 1, 1}, {2, 2, 0, 0}, {1, 1, 2, 2}}) {
		t.Errorf("next = %v", next)
	}
	if !same(words, [][]int{nil, {2}, {2, 1}}) {
		t.Errorf("words = %v", words)
	}
}

// A row of H ahead stays in the part; behind, it need not.
func TestPartsAreThoseOfTheCutAhead(t *testing.T) {
	h, x := []int{1, 0, 2}, []int{1, 2, 0}
	table := mustMake(t, sample{3, [][]int{{1, 2, 0}, {1, 0, 2}}, [][]int{h}})
	a, _ := table.Of(x)
	b, _ := table.Of(changed(h, x))
	c, _ := table.Of(changed(x, h))
	if a != b || a == c {
		t.Errorf("parts %d, %d, %d", a, b, c)
	}
}

func TestMakeRefuses(t *testing.T) {
	rounds := func(n, many int) [][]int { return slices.Repeat([][]int{upTo(n)}, many) }
	for _, c := range []struct {
		name       string
		n          int
		gens, subs [][]int
		e          api.Errno
	}{
		{"no bells", 0, nil, nil, api.ErrCount},
		{"too many bells", api.MaxBells + 1, nil, nil, api.ErrCount},
		{"the least number", math.MinInt, nil, nil, api.ErrCount},
		{"the greatest number", math.MaxInt, nil, nil, api.ErrCount},
		{"too many gens", 3, rounds(3, api.MaxGens+1), nil, api.ErrCount},
		{"too many subs", 3, nil, rounds(3, api.MaxGens+1), api.ErrCount},
		{"gens too short", 3, rounds(2, 1), nil, api.ErrCount},
		{"subs too long", 3, rounds(3, 1), rounds(4, 1), api.ErrCount},
		{"gens no row", 3, [][]int{{0, 0, 1}}, nil, api.ErrRow},
		{"subs no row", 3, rounds(3, 1), [][]int{{0, 0, 1}}, api.ErrRow},
		{"gens no row, subs too many", 3, [][]int{{0, 0, 1}}, rounds(3, api.MaxGens+1), api.ErrRow},
		{"gens too many, subs no row", 3, rounds(3, api.MaxGens+1), [][]int{{0, 0, 1}}, api.ErrCount},
		{"subs: one that is none, then no row", 3, nil, [][]int{{1, 0, 2}, {0, 0, 1}}, api.ErrRow},
		{"subs: one that is none", 3, [][]int{{1, 2, 0}}, [][]int{{1, 0, 2}}, api.ErrMember},
		{"subs: the last is none", 3, [][]int{{1, 2, 0}}, [][]int{{1, 2, 0}, {0, 1, 2}, {1, 0, 2}}, api.ErrMember},
		{"subs that no gens have", 2, nil, [][]int{{1, 0}}, api.ErrMember},
		{"too great a group, subs none of it", 12, m11(12), [][]int{cycled(12, []int{0, 1})}, api.ErrMember},
		{"too great subs, none of it", 12, m11(12), allOf(12), api.ErrMember},
		{"all rows of MaxBells by none", 12, allOf(12), nil, api.ErrLimit},
		{"all rows of MaxBells by all", 12, allOf(12), allOf(12), api.ErrLimit},
		{"1008 rows by none", 12, just1008(), nil, api.ErrLimit},
		{"1008 rows by 1008", 12, just1008(), just1008(), api.ErrLimit},
		{"5040 rows by four", 7, allOf(7), [][]int{cycled(7, []int{0, 1, 2, 3})}, api.ErrLimit},
		{"5040 rows by 2520", 7, allOf(7), [][]int{cycled(7, []int{0, 1, 2}), cycled(7, []int{2, 3, 4, 5, 6})}, api.ErrLimit},
	} {
		if table, e := coset.Make(c.n, c.gens, c.subs); e != c.e || table != nil {
			t.Errorf("%s: Make = %v, %d, want %d", c.name, table, e, c.e)
		}
	}
}

// holdsTogether looks at a table that is too great to be gone through row by row: letters lead there and back, no two parts are the same, words lead where they should.
func holdsTogether(t *testing.T, s sample, many int) {
	t.Helper()
	table := mustMake(t, s)
	next, words := table.All()
	if len(next) != many || len(words) != many {
		t.Fatalf("%d and %d parts, want %d", len(next), len(words), many)
	}
	most := 0
	for part, leads := range next {
		r := upTo(s.n)
		at := 0
		for _, letter := range words[part] {
			if letter > 0 {
				r, at = changed(r, s.gens[letter-1]), next[at][2*letter-2]
			} else {
				r, at = changed(r, undone(s.gens[-letter-1])), next[at][-2*letter-1]
			}
		}
		if of, e := table.Of(r); at != part || of != part || e != api.OK {
			t.Fatalf("the word of part %d leads to %d; Of = %d, %d", part, at, of, e)
		}
		for _, y := range s.subs {
			if of, e := table.Of(changed(y, r)); of != part || e != api.OK {
				t.Fatalf("part %d: a row of it is in %d, %d", part, of, e)
			}
		}
		for i, to := range leads {
			if next[to][i^1] != part || to > most+1 {
				t.Fatalf("part %d is led to %d, out of turn or not back", part, to)
			}
			most = max(most, to)
		}
	}
}

func TestGreatTables(t *testing.T) {
	t.Run("990 parts", func(t *testing.T) {
		// Those of M11 that leave three bells still are 8: they are sought here, as their generators aren't plain to see.
		var subs [][]int
		for _, r := range comesOf(12, m11(12)) {
			if r[0] == 0 && r[1] == 1 && r[2] == 2 && len(subs) < api.MaxGens {
				subs = append(subs, r)
			}
		}
		holdsTogether(t, sample{12, m11(12), subs}, 990)
	})
	t.Run("all of 7 by 8", func(t *testing.T) {
		holdsTogether(t, sample{7, allOf(7), [][]int{cycled(7, []int{0, 1, 2, 3}), cycled(7, []int{0, 2})}}, 630)
	})
	t.Run("one by 972", func(t *testing.T) { holdsTogether(t, sample{12, just972(), just972()}, 1) })
	t.Run("972 by none", func(t *testing.T) { holdsTogether(t, sample{12, just972(), nil}, 972) })
	t.Run("all of 8 by 168", func(t *testing.T) { holdsTogether(t, sample{8, allOf(8), fano(8)}, 240) })
	t.Run("all of 9 by 432", func(t *testing.T) {
		holdsTogether(t, sample{9, allOf(9), [][]int{
			cycled(9, []int{0, 1, 2}), cycled(9, []int{0, 1}), cycled(9, []int{3, 4, 5}), cycled(9, []int{3, 4}),
			cycled(9, []int{6, 7, 8}), cycled(9, []int{6, 7}), cycled(9, []int{0, 3}, []int{1, 4}, []int{2, 5}),
		}}, 840)
	})
}

func TestOfRefuses(t *testing.T) {
	table := mustMake(t, sample{3, [][]int{{1, 2, 0}}, nil})
	for _, c := range []struct {
		r []int
		e api.Errno
	}{
		{nil, api.ErrCount}, {[]int{}, api.ErrCount}, {upTo(13), api.ErrCount}, {[]int{1, 0}, api.ErrCount},
		{[]int{0, 1, 2, 3}, api.ErrCount}, {[]int{0, 0, 1}, api.ErrRow}, {[]int{0, 0}, api.ErrRow},
		{[]int{1, 2, 3}, api.ErrRow}, {[]int{math.MinInt, 1, math.MaxInt}, api.ErrRow},
		{[]int{1, 0, 2}, api.ErrMember}, {[]int{2, 1, 0}, api.ErrMember},
	} {
		if part, e := table.Of(c.r); part != 0 || e != c.e {
			t.Errorf("Of(%v) = %d, %d, want %d", c.r, part, e, c.e)
		}
	}
}

// Rows near those of a great group: which of them are of it, is known here.
func TestOfRowsThatAreNoneOfMany(t *testing.T) {
	rows := comesOf(12, just972())
	in := map[string]bool{}
	for _, r := range rows {
		in[fmt.Sprint(r)] = true
	}
	table := mustMake(t, sample{12, just972(), [][]int{cycled(12, []int{0, 1, 2}), cycled(12, []int{9, 10})}})
	for i, r := range rows {
		swap := cycled(12, []int{i % 12, (i + 1 + i/12%11) % 12})
		for _, x := range [][]int{r, changed(r, swap), changed(swap, r)} {
			if _, e := table.Of(x); (e == api.OK) != in[fmt.Sprint(x)] || e != api.OK && e != api.ErrMember {
				t.Errorf("Of(%v): %d", x, e)
			}
		}
	}
}

// X2.

func spoil(lists ...[]int) {
	for _, l := range lists {
		l = l[:cap(l)]
		for i := range l {
			l[i] = -9
		}
	}
}

// roomy are lists with more behind each in memory, and all of that memory.
func roomy(lists [][]int) (short, whole [][]int) {
	for _, l := range lists {
		w := append(slices.Clone(l), 77, 78, 79)
		short, whole = append(short, w[:len(l)]), append(whole, w)
	}
	return short, whole
}

func copied(lists [][]int) [][]int {
	var c [][]int
	for _, l := range lists {
		c = append(c, slices.Clone(l))
	}
	return c
}

func TestListsHandedInAreNeitherWrittenNorKept(t *testing.T) {
	gens, wide := roomy([][]int{{1, 2, 3, 0}, {1, 0, 2, 3}})
	subs, wider := roomy([][]int{{1, 0, 2, 3}, {0, 1, 3, 2}})
	before, beforeToo := copied(wide), copied(wider)
	s := sample{4, gens, subs}
	want := cutBy(4, gens, subs)
	table := mustMake(t, s)
	table.Of(subs[1])
	if !same(wide, before) || !same(wider, beforeToo) {
		t.Errorf("lists are changed: %v, %v", wide, wider)
	}
	spoil(wide...)
	spoil(wider...)
	gens[0], subs[0] = nil, nil
	for _, r := range allRows(4) {
		if part, e := table.Of(r); e != api.OK || part != want.of[fmt.Sprint(r)] {
			t.Errorf("Of(%v) = %d, %d after its generators were spoiled", r, part, e)
		}
	}
	if next, words := table.All(); !same(next, want.next) || !same(words, want.words) {
		t.Errorf("All = %v, %v after its generators were spoiled", next, words)
	}
}

func TestAnswersAreFreshAndShareNothing(t *testing.T) {
	s := sample{4, [][]int{{1, 2, 3, 0}, {1, 0, 2, 3}}, [][]int{{1, 0, 2, 3}}}
	table, want := mustMake(t, s), cutBy(s.n, s.gens, s.subs)
	for range 2 {
		next, words := table.All()
		for i := range next {
			if !slices.Equal(next[i], want.next[i]) || !slices.Equal(words[i], want.words[i]) {
				t.Errorf("part %d: %v, %v, want %v, %v", i, next[i], words[i], want.next[i], want.words[i])
			}
			spoil(next[i], words[i])
		}
	}
}
