package extent_test

import (
	"math"
	"reflect"
	"slices"
	"testing"

	"campanile/api"
	"campanile/extent"
	"campanile/group"
)

// wrongPairs are two rows that may not be, and why.
func wrongPairs() []struct {
	name string
	x, y []int
	e    api.Errno
} {
	eight := rowsOf("21345678 23456781")
	return []struct {
		name string
		x, y []int
		e    api.Errno
	}{
		{"no bells", nil, nil, api.ErrCount},
		{"no bells, an empty list", []int{}, []int{}, api.ErrCount},
		{"no bells, then a row", nil, []int{0}, api.ErrCount},
		{"no bells, then no row", nil, []int{1}, api.ErrCount},
		{"one bell too many", upTo(13), upTo(13), api.ErrCount},
		{"one bell too many, no rows", of(13, 0), of(13, 0), api.ErrCount},
		{"x is no row", []int{0, 0}, []int{0, 1}, api.ErrRow},
		{"x has a bell too great", []int{0, 2}, []int{0, 1}, api.ErrRow},
		{"x has a bell below 0", []int{-1, 0}, []int{0, 1}, api.ErrRow},
		{"x has the least number", []int{math.MinInt}, []int{0}, api.ErrRow},
		{"x has the greatest number", []int{math.MaxInt}, []int{0}, api.ErrRow},
		{"y is no row", []int{0, 1}, []int{1, 1}, api.ErrRow},
		{"y has a bell too great", []int{0, 1, 2}, []int{1, 2, 3}, api.ErrRow},
		{"y has no bells", []int{0, 1}, nil, api.ErrCount},
		{"y has a bell fewer", []int{0, 1, 2}, []int{1, 0}, api.ErrCount},
		{"y has a bell more", []int{0, 1}, []int{0, 1, 2}, api.ErrCount},
		{"y has too many bells", []int{0, 1}, upTo(13), api.ErrCount},

		{"x is no row, y has a bell fewer", []int{0, 0, 1}, []int{1, 0}, api.ErrRow},
		{"x is no row, y has no bells", []int{0, 0, 1}, nil, api.ErrRow},
		{"y is no row and has a bell fewer", []int{0, 1, 2}, []int{1, 1}, api.ErrRow},
		{"y is no row, of a great group", eight[1], of(8, 0), api.ErrRow},
		{"a great group", eight[0], eight[1], api.ErrLimit},
	}
}

func TestPairsAreRefused(t *testing.T) {
	for _, c := range wrongPairs() {
		if e := group.Check(len(c.x), [][]int{c.x, c.y}); c.e != api.ErrLimit && e != c.e {
			t.Fatalf("%s: group.Check = %d, want %d", c.name, e, c.e)
		}
		if sets, e := extent.Qsets(c.x, c.y); e != c.e || len(sets) != 0 {
			t.Errorf("%s: Qsets = %v, %d, want %d", c.name, sets, e, c.e)
		}
		for _, choice := range [][]int{nil, {0}, {0, 0}, {2}, {-1, 0, 0}, of(5040, 1)} {
			if many, e := extent.Rounds(c.x, c.y, choice); e != c.e || many != 0 {
				t.Errorf("%s: Rounds(%v) = %d, %d, want %d", c.name, choice, many, e, c.e)
			}
		}
	}
}

func TestChoicesAreRefused(t *testing.T) {
	for _, c := range []struct {
		name, rows string
		choice     []int
		e          api.Errno
	}{
		{"none", "213 132", nil, api.ErrCount},
		{"one fewer", "213 132", []int{0}, api.ErrCount},
		{"one more", "213 132", []int{0, 1, 0}, api.ErrCount},
		{"as many as rows", "213 132", of(6, 0), api.ErrCount},
		{"none, of one set", "12 12", nil, api.ErrCount},
		{"one more, of one set", "1 1", []int{0, 0}, api.ErrCount},
		{"one fewer, alike", "2341 2341", []int{0, 1, 0}, api.ErrCount},
		{"one fewer, none of them may be", "213 132", []int{2}, api.ErrCount},
		{"one more, none of them may be", "213 132", []int{-1, 2, 3}, api.ErrCount},
		{"far too many", "1 1", of(100000, 0), api.ErrCount},
		{"-1", "213 132", []int{-1, 0}, api.ErrValue},
		{"-1, the last one", "213 132", []int{0, -1}, api.ErrValue},
		{"2", "213 132", []int{2, 1}, api.ErrValue},
		{"2, the last one", "213 132", []int{1, 2}, api.ErrValue},
		{"2, of one set", "1 1", []int{2}, api.ErrValue},
		{"-1, alike", "2341 2341", []int{0, 1, -1, 0}, api.ErrValue},
		{"the least number", "213 132", []int{0, math.MinInt}, api.ErrValue},
		{"the greatest number", "213 132", []int{math.MaxInt, 0}, api.ErrValue},
	} {
		pair := rowsOf(c.rows)
		if many, e := extent.Rounds(pair[0], pair[1], c.choice); e != c.e || many != 0 {
			t.Errorf("%s: Rounds = %d, %d, want %d", c.name, many, e, c.e)
		}
	}
}

func TestCircuitRefuses(t *testing.T) {
	for _, c := range wrongChanges() {
		if way, ok, e := extent.Circuit(c.n, c.changes); e != c.e || ok || len(way) != 0 {
			t.Errorf("%s: Circuit = %v, %t, %d, want %d", c.name, way, ok, e, c.e)
		}
	}
}

func wrongChanges() []struct {
	name    string
	n       int
	changes [][]int
	e       api.Errno
} {
	nine := slices.Repeat([][]int{{1, 0}}, api.MaxGens+1)
	return []struct {
		name    string
		n       int
		changes [][]int
		e       api.Errno
	}{
		{"no bells", 0, nil, api.ErrCount},
		{"no bells, changes of none", 0, [][]int{{}}, api.ErrCount},
		{"fewer than none", -1, rowsOf("1"), api.ErrCount},
		{"five bells", 5, rowsOf("21354 13254"), api.ErrCount},
		{"five bells, no changes", 5, nil, api.ErrCount},
		{"as many as may be elsewhere", api.MaxBells, rowsOf("2143658709TE"), api.ErrCount},
		{"the least number", math.MinInt, rowsOf("21"), api.ErrCount},
		{"the greatest number", math.MaxInt, rowsOf("21"), api.ErrCount},
		{"one change too many", 2, nine, api.ErrCount},
		{"one change too many, all rounds", 1, slices.Repeat([][]int{{0}}, api.MaxGens+1), api.ErrCount},
		{"a change of no bells", 2, [][]int{nil}, api.ErrCount},
		{"a change of a bell fewer", 3, rowsOf("213 21"), api.ErrCount},
		{"a change of a bell more", 2, rowsOf("21 213"), api.ErrCount},
		{"a change of too many bells", 4, [][]int{upTo(13)}, api.ErrCount},
		{"no row", 2, [][]int{{0, 0}}, api.ErrRow},
		{"no row, the last one", 2, [][]int{{1, 0}, {0, 1}, {1, 2}}, api.ErrRow},
		{"a bell below 0", 2, [][]int{{-1, 0}}, api.ErrRow},
		{"the greatest number as a bell", 1, [][]int{{math.MaxInt}}, api.ErrRow},
		{"a change that is not undone by itself", 3, rowsOf("231"), api.ErrPlace},
		{"not undone by itself, the last one", 3, rowsOf("213 132 312"), api.ErrPlace},
		{"of order 4", 4, rowsOf("2143 2341"), api.ErrPlace},

		{"five bells, no row", 5, [][]int{{0, 0}}, api.ErrCount},
		{"five bells, not undone by itself", 5, rowsOf("23451"), api.ErrCount},
		{"too many, no rows", 2, slices.Repeat([][]int{{0, 0}}, api.MaxGens+1), api.ErrCount},
		{"too many, not undone by themselves", 3, slices.Repeat(rowsOf("231"), api.MaxGens+1), api.ErrCount},
		{"a bell fewer, then no row", 2, [][]int{{0}, {0, 0}}, api.ErrCount},
		{"no row, then a bell fewer", 2, [][]int{{0, 0}, {0}}, api.ErrRow},
		{"no row, and a bell fewer", 3, [][]int{{1, 1}}, api.ErrRow},
		{"not undone by itself, then no row", 3, [][]int{{1, 2, 0}, {0, 0, 0}}, api.ErrRow},
		{"not undone by itself, then a bell fewer", 3, [][]int{{1, 2, 0}, {1, 0}}, api.ErrCount},
		{"not undone by itself, of a bell fewer", 4, rowsOf("231"), api.ErrCount},
	}
}

// X1, X2.

// asked: what all calls of the package are asked.
type asked struct {
	x, y, choice []int
	n            int
	changes      [][]int
}

type answer struct {
	sets [][]int
	many int
	way  []int
	ok   bool
	e    [3]api.Errno
}

func answered(q asked) answer {
	var a answer
	a.sets, a.e[0] = extent.Qsets(q.x, q.y)
	a.many, a.e[1] = extent.Rounds(q.x, q.y, q.choice)
	a.way, a.ok, a.e[2] = extent.Circuit(q.n, q.changes)
	return a
}

// several to ask, of which some may not be.
func several() []asked {
	next := drawn(103)
	var l []asked
	for range 60 {
		n, m := 1+next(5), 1+next(4)
		q := asked{x: drawnRow(next, n), y: drawnRow(next, n), n: m, changes: drawnOf(next, undoing(m), next(api.MaxGens+1))}
		sets, _ := extent.Qsets(q.x, q.y)
		q.choice = drawnChoice(next, len(sets)+next(8)/7)
		l = append(l, q)
	}
	for _, c := range wrongPairs() {
		l = append(l, asked{x: c.x, y: c.y, choice: []int{0, 1}, n: 2, changes: [][]int{{1, 0}}})
	}
	for _, c := range wrongChanges() {
		l = append(l, asked{x: []int{1, 0, 2}, y: []int{0, 2, 1}, choice: []int{0, 2}, n: c.n, changes: c.changes})
	}
	return l
}

// roomy has more behind it in memory.
func roomy(l []int) []int { return append(slices.Clone(l), 77, 78)[:len(l)] }

func roomyAsked(q asked) asked {
	given := asked{x: roomy(q.x), y: roomy(q.y), choice: roomy(q.choice), n: q.n}
	for _, change := range q.changes {
		given.changes = append(given.changes, roomy(change))
	}
	given.changes = append(given.changes, []int{79})[:len(q.changes)]
	return given
}

func stays(given, l []int) bool {
	return slices.Equal(given, l) && slices.Equal(given[len(l):len(l)+2], []int{77, 78})
}

// untouched: has what was made roomy still what it had, and behind its lists too?
func untouched(given, q asked) bool {
	is := stays(given.x, q.x) && stays(given.y, q.y) && stays(given.choice, q.choice) && len(given.changes) == len(q.changes)
	for i, change := range q.changes {
		is = is && stays(given.changes[i], change)
	}
	return is && slices.Equal(given.changes[:len(q.changes)+1][len(q.changes)], []int{79})
}

func TestListsHandedInStay(t *testing.T) {
	for _, q := range several() {
		given := roomyAsked(q)
		got := answered(given)
		if !untouched(given, q) {
			t.Errorf("%v became %v", q, given)
		}
		// What stands behind a list is not read.
		if want := answered(q); !reflect.DeepEqual(got, want) {
			t.Errorf("%v, with more behind it: %v, want %v", q, got, want)
		}
	}
}

// spoil writes into all of a list's memory, that behind its end too.
func spoil(l []int) {
	l = l[:cap(l)]
	for i := range l {
		l[i] = -5
	}
}

func TestAnswersShareNoMemory(t *testing.T) {
	for _, q := range several() {
		given := roomyAsked(q)
		want := answered(given)
		for i := range want.sets {
			got := answered(given)
			spoil(got.sets[i])
			got.sets[i] = want.sets[i]
			if !reflect.DeepEqual(got, want) || !untouched(given, q) {
				t.Errorf("%v: set %d shares memory", q, i)
			}
		}
		got := answered(given)
		spoil(got.way)
		for i := range got.sets {
			got.sets[i] = nil
		}
		if !untouched(given, q) || !reflect.DeepEqual(answered(given), want) {
			t.Errorf("%v: an answer is kept", q)
		}
	}
}

func TestAnswersHangOnArgumentsAlone(t *testing.T) {
	l := several()
	var first []answer
	for _, q := range l {
		first = append(first, answered(q))
	}
	for i := len(l) - 1; i >= 0; i-- {
		if again := answered(l[i]); !reflect.DeepEqual(again, first[i]) {
			t.Errorf("%v: %v, then %v", l[i], first[i], again)
		}
	}
}
