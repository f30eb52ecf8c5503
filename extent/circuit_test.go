package extent_test

import (
	"slices"
	"testing"

	"campanile/api"
	"campanile/extent"
)

// rings: does a way ring each row of n bells once, from rounds on, and then rounds?
func rings(n int, changes [][]int, way []int) bool {
	r := upTo(n)
	rung := map[string]bool{}
	for _, k := range way {
		if rung[text(r)] || k < 0 || k >= len(changes) {
			return false
		}
		rung[text(r)] = true
		r = changed(r, changes[k])
	}
	return len(rung) == factorial(n) && slices.Equal(r, upTo(n))
}

func factorial(n int) int {
	if n < 2 {
		return 1
	}
	return n * factorial(n-1)
}

// firstByAll asks of all lists of as many changes as there are rows, in order, whether one rings.
func firstByAll(n int, changes [][]int) ([]int, bool) {
	way := make([]int, factorial(n))
	if len(changes) == 0 {
		return nil, false
	}
	for {
		if rings(n, changes, way) {
			return way, true
		}
		last := len(way) - 1
		for last >= 0 && way[last] == len(changes)-1 {
			way[last] = 0
			last--
		}
		if last < 0 {
			return nil, false
		}
		way[last]++
	}
}

// place of a way: which rows were rung, bit by bit, and which one is rung now.
type place struct {
	rung uint32
	now  int
}

// firstByEnds finds out of each place, once, whether one can end well from there, and takes the first change that can.
func firstByEnds(n int, changes [][]int) ([]int, bool) {
	rows := generated(n, neighbours(n)...)
	number := map[string]int{}
	for i, r := range rows {
		number[text(r)] = i
	}
	all := uint32(1)<<len(rows) - 1
	next := func(at place, k int) place {
		to := number[text(changed(rows[at.now], changes[k]))]
		return place{at.rung | 1<<to, to}
	}
	known := map[place]bool{}
	var ends func(at place) bool
	ends = func(at place) bool {
		if well, ok := known[at]; ok {
			return well
		}
		well := false
		for k := range changes {
			to := next(at, k)
			well = well || at.rung == all && to.now == 0 || to.rung != at.rung && ends(to)
		}
		known[at] = well
		return well
	}
	at := place{1, 0}
	if !ends(at) {
		return nil, false
	}
	var way []int
	for at.rung != all {
		k := slices.IndexFunc(upTo(len(changes)), func(k int) bool { to := next(at, k); return to.rung != at.rung && ends(to) })
		way, at = append(way, k), next(at, k)
	}
	return append(way, slices.IndexFunc(upTo(len(changes)), func(k int) bool { return next(at, k).now == 0 })), true
}

// neighbours are the changes that swap two bells side by side: all rows come of them.
func neighbours(n int) [][]int {
	var l [][]int
	for i := 1; i < n; i++ {
		r := upTo(n)
		r[i-1], r[i] = r[i], r[i-1]
		l = append(l, r)
	}
	return l
}

// undoing are all rows of n bells that are undone by themselves, rounds the first of them.
func undoing(n int) [][]int {
	return slices.DeleteFunc(generated(n, neighbours(n)...), func(r []int) bool { return !slices.Equal(changed(r, r), upTo(n)) })
}

// E2.

func TestCircuit(t *testing.T) {
	for _, c := range []struct {
		name    string
		n       int
		changes string
		want    []int
	}{
		{"the document's", 4, "2143 1324 1243", []int{0, 1, 0, 1, 0, 1, 0, 2, 0, 1, 0, 1, 0, 1, 0, 2, 0, 1, 0, 1, 0, 1, 0, 2}},
		{"the document's, of three", 3, "213 132", []int{0, 1, 0, 1, 0, 1}},
		{"turned over", 3, "132 213", []int{0, 1, 0, 1, 0, 1}},
		{"one bell", 1, "1", []int{0}},
		{"one bell, MaxGens changes", 1, "1 1 1 1 1 1 1 1", []int{0}},
		{"one bell, no changes", 1, "", nil},
		{"two bells", 2, "21", []int{0, 0}},
		{"two bells, rounds ahead", 2, "12 21", []int{1, 1}},
		{"two bells, rounds behind", 2, "21 12", []int{0, 0}},
		{"two bells, the same again", 2, "21 21", []int{0, 0}},
		{"two bells, rounds", 2, "12", nil},
		{"two bells, no changes", 2, "", nil},
		{"two bells, MaxGens changes, the last one of use", 2, "12 12 12 12 12 12 12 21", []int{7, 7}},
		{"three bells, no changes", 3, "", nil},
		{"three bells, one change", 3, "213", nil},
		{"three bells, one change and rounds", 3, "123 132", nil},
		{"three bells, one change again and again", 3, "321 321 321", nil},
		{"three bells, three changes", 3, "213 132 321", []int{0, 1, 0, 1, 0, 1}},
		{"three bells, a change again", 3, "213 213 132", []int{0, 2, 0, 2, 0, 2}},
		{"four bells, no changes", 4, "", nil},
		{"four bells, rounds", 4, "1234", nil},
		{"four bells, two changes", 4, "2143 1324", nil},
		{"four bells, three that leave one still", 4, "2134 1324 3214", nil},
		{"four bells, all that keep a square", 4, "2143 3412 4321 1432 3214 2143 3412 4321", nil},
		{"four bells, side by side", 4, "2134 1324 1243", []int{0, 1, 0, 1, 0, 2, 0, 1, 0, 1, 0, 2, 0, 1, 2, 1, 0, 1, 0, 1, 2, 1, 0, 2}},
	} {
		changes := rowsOf(c.changes)
		got, ok, e := extent.Circuit(c.n, changes)
		if e != api.OK || ok != (c.want != nil) || !slices.Equal(got, c.want) {
			t.Errorf("%s: Circuit = %v, %t, %d, want %v", c.name, got, ok, e, c.want)
		}
		if ok && !rings(c.n, changes, got) {
			t.Errorf("%s: %v doesn't ring all rows", c.name, got)
		}
		if first, is := firstByEnds(c.n, changes); is != ok || !slices.Equal(first, c.want) {
			t.Errorf("%s: the test itself is wrong: %v", c.name, first)
		}
	}
}

// Of up to three bells, all lists of up to three changes there are, and longer ones: the first of all ways.
func TestCircuitIsTheFirstOfAllWays(t *testing.T) {
	next := drawn(97)
	for n := 1; n <= 3; n++ {
		may := undoing(n)
		lists := [][][]int{nil}
		for i := 0; i < len(lists); i++ {
			if len(lists[i]) == 3 {
				break
			}
			for _, change := range may {
				lists = append(lists, append(slices.Clone(lists[i]), change))
			}
		}
		for range 8 {
			lists = append(lists, drawnOf(next, may, 4+next(api.MaxGens-3)))
		}
		for _, changes := range lists {
			want, is := firstByAll(n, changes)
			if got, ok, e := extent.Circuit(n, changes); e != api.OK || ok != is || !slices.Equal(got, want) {
				t.Errorf("Circuit(%d, %v) = %v, %t, %d, want %v, %t", n, changes, got, ok, e, want, is)
			}
			if way, ok := firstByEnds(n, changes); ok != is || !slices.Equal(way, want) {
				t.Errorf("the tests differ: %d, %v: %v, %v", n, changes, want, way)
			}
		}
	}
}

func drawnOf(next func(int) int, rows [][]int, many int) [][]int {
	var l [][]int
	for range many {
		l = append(l, rows[next(len(rows))])
	}
	return l
}

// Of four bells: there is a way just if all rows come of the changes, and it is the first one.
func TestCircuitOfFourBells(t *testing.T) {
	next := drawn(101)
	may := undoing(4)
	if len(may) != 10 {
		t.Fatalf("the test itself is wrong: %v", may)
	}
	found := map[bool]int{}
	for i := range 120 {
		changes := drawnOf(next, may, 1+i%api.MaxGens)
		want, is := firstByEnds(4, changes)
		if is != (len(generated(4, changes...)) == 24) {
			t.Errorf("%v: a way: %t", changes, is)
		}
		found[is]++
		if got, ok, e := extent.Circuit(4, changes); e != api.OK || ok != is || !slices.Equal(got, want) {
			t.Errorf("Circuit(4, %v) = %v, %t, %d, want %v, %t", changes, got, ok, e, want, is)
		}
	}
	if found[true] < 30 || found[false] < 30 {
		t.Errorf("too few of a kind: %v", found)
	}
}

// Ways for which most had to be tried in vain; and what can't be done isn't tried again by a change that was there ahead.
func TestCircuitsThatAreHardToFind(t *testing.T) {
	for _, words := range []string{
		"4321 1324 4231 3412 2143 3214",
		"4321 4321 1324 4231 3412 2143 3214 1324",
		"2143 2143 1243 1243 2134 2134 4321 3412",
		"1234 2143 2134 1243 4321 3412 4231 4231",
		"4231 4321 2134 3214",
		"4231 4231 4321 4321 2134 2134 3214 3214",
	} {
		changes := rowsOf(words)
		want, is := firstByEnds(4, changes)
		if got, ok, e := extent.Circuit(4, changes); e != api.OK || ok != is || !slices.Equal(got, want) {
			t.Errorf("%s: Circuit = %v, %t, %d, want %v, %t", words, got, ok, e, want, is)
		}
	}
}

// Whatever undoes itself may be; whatever doesn't may not.
func TestCircuitTakesWhatUndoesItself(t *testing.T) {
	for n := 1; n <= 4; n++ {
		may := undoing(n)
		for _, r := range generated(n, neighbours(n)...) {
			want := api.ErrPlace
			if slices.ContainsFunc(may, func(m []int) bool { return slices.Equal(m, r) }) {
				want = api.OK
			}
			for _, changes := range [][][]int{{r}, {upTo(n), r}, {r, upTo(n)}, append(slices.Repeat([][]int{upTo(n)}, api.MaxGens-1), r)} {
				way, ok, e := extent.Circuit(n, changes)
				if e != want || e != api.OK && (ok || len(way) > 0) {
					t.Errorf("Circuit(%d, %v) = %v, %t, %d, want %d", n, changes, way, ok, e, want)
				}
			}
		}
	}
}
