package extent_test

import (
	"slices"
	"strings"
	"testing"

	"campanile/api"
	"campanile/extent"
	"campanile/group"
)

func same(a, b [][]int) bool { return slices.EqualFunc(a, b, slices.Equal[[]int]) }

// of is so many times a number.
func of(times, number int) []int { return slices.Repeat([]int{number}, times) }

// upTo are the numbers from 0 on, so many.
func upTo(many int) []int {
	l := make([]int, many)
	for i := range l {
		l[i] = i
	}
	return l
}

// rowOf is a row, told by its signs.
func rowOf(text string) []int {
	var r []int
	for _, sign := range text {
		r = append(r, strings.IndexRune("1234567890ET", sign))
	}
	return r
}

func rowsOf(text string) [][]int {
	var rows [][]int
	for _, word := range strings.Fields(text) {
		rows = append(rows, rowOf(word))
	}
	return rows
}

// drawn numbers, the same each time.
func drawn(number uint64) func(most int) int {
	return func(most int) int {
		number = number*6364136223846793005 + 1442695040888963407
		return int(number >> 33 % uint64(most))
	}
}

func drawnRow(next func(int) int, bells int) []int {
	r := upTo(bells)
	for i := range r {
		k := i + next(bells-i)
		r[i], r[k] = r[k], r[i]
	}
	return r
}

// changed is r, in whose places the bells are those of the places that the other one tells.
func changed(r, by []int) []int {
	l := make([]int, len(r))
	for i := range l {
		l[i] = r[by[i]]
	}
	return l
}

// text of a row: rows are in order as these are.
func text(r []int) string {
	b := make([]byte, len(r))
	for i, bell := range r {
		b[i] = byte('a' + bell)
	}
	return string(b)
}

// generated: all rows to which rounds can be changed, in order, without the program's help.
func generated(bells int, gens ...[]int) [][]int {
	rows := [][]int{upTo(bells)}
	there := map[string]bool{text(rows[0]): true}
	for i := 0; i < len(rows); i++ {
		for _, gen := range gens {
			if next := changed(rows[i], gen); !there[text(next)] {
				there[text(next)] = true
				rows = append(rows, next)
			}
		}
	}
	slices.SortFunc(rows, slices.Compare)
	return rows
}

// setsOf paints rows that must be left alike in one colour, until nothing changes any more.
func setsOf(rows [][]int, x, y []int) [][]int {
	byX := map[string]int{}
	for i, r := range rows {
		byX[text(changed(r, x))] = i
	}
	colours := upTo(len(rows))
	for again := true; again; {
		again = false
		for s, r := range rows {
			other := byX[text(changed(r, y))]
			if least := min(colours[s], colours[other]); colours[s] != least || colours[other] != least {
				colours[s], colours[other], again = least, least, true
			}
		}
	}
	var sets [][]int
	for colour := range rows {
		var set []int
		for r := range rows {
			if colours[r] == colour {
				set = append(set, r)
			}
		}
		if len(set) > 0 {
			sets = append(sets, set)
		}
	}
	return sets
}

// roundsOf rings from each row on, as the choices of the sets tell, until it comes again.
func roundsOf(rows, sets [][]int, x, y, choice []int) int {
	next := map[string][]int{}
	for i, set := range sets {
		for _, r := range set {
			next[text(rows[r])] = changed(rows[r], [][]int{x, y}[choice[i]])
		}
	}
	rung, many := map[string]bool{}, 0
	for _, r := range rows {
		if !rung[text(r)] {
			many++
		}
		for ; !rung[text(r)]; r = next[text(r)] {
			rung[text(r)] = true
		}
	}
	return many
}

// E1: Qsets.

func TestQsets(t *testing.T) {
	for _, c := range []struct {
		name, x, y string
		want       [][]int
	}{
		{"the document's", "213", "132", [][]int{{0, 3, 4}, {1, 2, 5}}},
		{"turned over", "132", "213", [][]int{{0, 3, 4}, {1, 2, 5}}},
		{"one bell", "1", "1", [][]int{{0}}},
		{"both rounds", "12345", "12345", [][]int{{0}}},
		{"both rounds, of as many bells as may be", "1234567890ET", "1234567890ET", [][]int{{0}}},
		{"two bells, the first one rounds", "12", "21", [][]int{{0, 1}}},
		{"two bells, the second one rounds", "21", "12", [][]int{{0, 1}}},
		{"two bells, alike", "21", "21", [][]int{{0}, {1}}},
		{"alike", "2341", "2341", [][]int{{0}, {1}, {2}, {3}}},
		{"one undoes the other", "2341", "4123", [][]int{{0, 2}, {1, 3}}},
		{"one undoes the other, of three", "231", "312", [][]int{{0, 1, 2}}},
		{"one is twice the other", "23451", "34512", [][]int{{0, 1, 2, 3, 4}}},
		{"rounds and one of order 3", "123", "231", [][]int{{0, 1, 2}}},
		{"they swap other bells", "2134", "1243", [][]int{{0, 3}, {1, 2}}},
		{"in a square", "2341", "4321", [][]int{{0, 1}, {2, 3}, {4, 5}, {6, 7}}},
	} {
		x, y := rowOf(c.x), rowOf(c.y)
		if want := setsOf(generated(len(x), x, y), x, y); !same(want, c.want) {
			t.Fatalf("%s: the test itself is wrong: %v", c.name, want)
		}
		if got, e := extent.Qsets(x, y); e != api.OK || !same(got, c.want) {
			t.Errorf("%s: Qsets = %v, %d, want %v", c.name, got, e, c.want)
		}
	}
}

func TestQsetsOfMany(t *testing.T) {
	next := drawn(73)
	for range 800 {
		n := 1 + next(6)
		x, y := drawnRow(next, n), drawnRow(next, n)
		if next(6) == 0 {
			y = slices.Clone(x)
		}
		want := setsOf(generated(n, x, y), x, y)
		if got, e := extent.Qsets(x, y); e != api.OK || !same(got, want) {
			t.Errorf("Qsets(%v, %v) = %v, %d, want %v", x, y, got, e, want)
		}
	}
}

// small groups of many bells.
func pairs() [][2][]int {
	var l [][2][]int
	for _, words := range []string{
		"214365870ET9 2345678901TE",
		"0ET123456789 TE0987654321",
		"2143658709TE 132547698E0T",
		"1234567ET908 123456790ET8",
		"2345167890TE 1234578960TE",
	} {
		pair := rowsOf(words)
		if len(pair[0]) != api.MaxBells || len(pair[1]) != api.MaxBells {
			panic(words)
		}
		l = append(l, [2][]int{pair[0], pair[1]})
	}
	return l
}

func TestQsetsAndRoundsOfManyBells(t *testing.T) {
	next := drawn(79)
	told := 0
	for _, pair := range pairs() {
		x, y := pair[0], pair[1]
		g, _ := group.Make(len(x), [][]int{x, y})
		if g.Size() > api.MaxElements {
			if got, e := extent.Qsets(x, y); e != api.ErrLimit || len(got) != 0 {
				t.Errorf("Qsets(%v, %v) = %v, %d, want ErrLimit", x, y, got, e)
			}
			continue
		}
		told++
		rows := generated(len(x), x, y)
		want := setsOf(rows, x, y)
		if got, e := extent.Qsets(x, y); e != api.OK || !same(got, want) {
			t.Errorf("Qsets(%v, %v) = %v, %d, want %v", x, y, got, e, want)
		}
		choice := drawnChoice(next, len(want))
		if got, e := extent.Rounds(x, y, choice); e != api.OK || got != roundsOf(rows, want, x, y, choice) {
			t.Errorf("Rounds(%v, %v, %v) = %d, %d", x, y, choice, got, e)
		}
	}
	if told < 3 {
		t.Errorf("too few are told: %d", told)
	}
}

func drawnChoice(next func(int) int, many int) []int {
	choice := make([]int, many)
	for i := range choice {
		choice[i] = next(2)
	}
	return choice
}

// Just MaxElements rows, and more.
func TestGroupsOfMaxElements(t *testing.T) {
	next := drawn(83)
	for _, words := range []string{"2134567 2345671", "2345671 2134567", "213456789 234567189", "1234568790ET 123457890ET6"} {
		pair := rowsOf(words)
		x, y := pair[0], pair[1]
		rows := generated(len(x), x, y)
		if len(rows) != api.MaxElements {
			t.Fatalf("%s: the test itself is wrong: %d rows", words, len(rows))
		}
		want := setsOf(rows, x, y)
		if got, e := extent.Qsets(x, y); e != api.OK || !same(got, want) {
			t.Errorf("%s: Qsets = %d sets, %d, want %d", words, len(got), e, len(want))
		}
		for _, choice := range [][]int{of(len(want), 0), of(len(want), 1), drawnChoice(next, len(want))} {
			if got, e := extent.Rounds(x, y, choice); e != api.OK || got != roundsOf(rows, want, x, y, choice) {
				t.Errorf("%s: Rounds = %d, %d", words, got, e)
			}
		}
	}
	for _, c := range []struct {
		words string
		size  int
	}{
		{"213456798 234567198", 2 * api.MaxElements},
		{"21345678 23456781", 8 * api.MaxElements},
		{"23145678 13456782", 4 * api.MaxElements},
		{"2134567890ET 234567890ET1", 479001600},
	} {
		pair := rowsOf(c.words)
		if g, _ := group.Make(len(pair[0]), pair); g.Size() != c.size {
			t.Fatalf("%s: the test itself is wrong: %d rows", c.words, g.Size())
		}
		if got, e := extent.Qsets(pair[0], pair[1]); e != api.ErrLimit || len(got) != 0 {
			t.Errorf("%s: Qsets = %v, %d, want ErrLimit", c.words, got, e)
		}
		for _, choice := range [][]int{nil, {0}, {2}, of(api.MaxElements, 0)} {
			if got, e := extent.Rounds(pair[0], pair[1], choice); e != api.ErrLimit || got != 0 {
				t.Errorf("%s: Rounds(%v) = %d, %d, want ErrLimit", c.words, choice, got, e)
			}
		}
	}
}

// E1: Rounds.

func TestRounds(t *testing.T) {
	for _, c := range []struct {
		name, x, y string
		choice     []int
		want       int
	}{
		{"the document's rows, by x alone", "213", "132", []int{0, 0}, 3},
		{"by y alone", "213", "132", []int{1, 1}, 3},
		{"all six rows", "213", "132", []int{0, 1}, 1},
		{"all six rows, the other way", "213", "132", []int{1, 0}, 1},
		{"one bell", "1", "1", []int{0}, 1},
		{"one bell, by y", "1", "1", []int{1}, 1},
		{"both rounds", "12345", "12345", []int{1}, 1},
		{"rounds or a swap: rounds", "12", "21", []int{0}, 2},
		{"rounds or a swap: a swap", "12", "21", []int{1}, 1},
		{"alike: it is all one", "2341", "2341", []int{0, 1, 1, 0}, 1},
		{"alike, of two swaps", "2143", "2143", []int{1, 0}, 1},
		{"there or back", "2341", "4123", []int{0, 0}, 1},
		{"there and back", "2341", "4123", []int{0, 1}, 2},
		{"there and back again", "2341", "4123", []int{1, 0}, 2},
		{"back", "2341", "4123", []int{1, 1}, 1},
		{"two steps or one", "34512", "23451", []int{0}, 1},
		{"in a square, turned", "2341", "4321", []int{0, 0, 0, 0}, 2},
		{"in a square, turned over", "2341", "4321", []int{1, 1, 1, 1}, 4},
		{"in a square, turned over once", "2341", "4321", []int{0, 1, 0, 0}, 1},
		{"in a square, turned over twice", "2341", "4321", []int{0, 1, 0, 1}, 2},
		{"in a square, turned over but once", "2341", "4321", []int{1, 1, 0, 1}, 3},
	} {
		x, y := rowOf(c.x), rowOf(c.y)
		rows := generated(len(x), x, y)
		if want := roundsOf(rows, setsOf(rows, x, y), x, y, c.choice); want != c.want {
			t.Errorf("%s: the test itself is wrong: %d", c.name, want)
		}
		if got, e := extent.Rounds(x, y, c.choice); e != api.OK || got != c.want {
			t.Errorf("%s: Rounds = %d, %d, want %d", c.name, got, e, c.want)
		}
	}
}

func TestRoundsOfMany(t *testing.T) {
	next := drawn(89)
	found := map[int]int{}
	for range 1500 {
		n := 1 + next(5)
		x, y := drawnRow(next, n), drawnRow(next, n)
		rows := generated(n, x, y)
		sets := setsOf(rows, x, y)
		choice := drawnChoice(next, len(sets))
		want := roundsOf(rows, sets, x, y, choice)
		found[min(want, 4)]++
		if got, e := extent.Rounds(x, y, choice); e != api.OK || got != want {
			t.Errorf("Rounds(%v, %v, %v) = %d, %d, want %d", x, y, choice, got, e, want)
		}
	}
	for many := 1; many <= 4; many++ {
		if found[many] < 50 {
			t.Errorf("too few of %d circuits: %v", many, found)
		}
	}
}

// All choices there are: each has just so many circuits as are rung.
func TestRoundsOfAllChoices(t *testing.T) {
	for _, words := range []string{"213 132", "2341 4321", "2143 1324", "2134 2341", "21354 13245"} {
		pair := rowsOf(words)
		x, y := pair[0], pair[1]
		rows := generated(len(x), x, y)
		sets := setsOf(rows, x, y)
		for number := range min(1<<len(sets), 1<<10) {
			choice := make([]int, len(sets))
			for i := range choice {
				choice[i] = number >> i & 1
			}
			if got, e := extent.Rounds(x, y, choice); e != api.OK || got != roundsOf(rows, sets, x, y, choice) {
				t.Errorf("%s: Rounds(%v) = %d, %d", words, choice, got, e)
			}
		}
	}
}
