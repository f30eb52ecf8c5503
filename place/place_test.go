package place_test

import (
	"math"
	"slices"
	"strings"
	"testing"

	"campanile/api"
	"campanile/place"
)

func same(a, b [][]int) bool { return slices.EqualFunc(a, b, slices.Equal[[]int]) }

func contains(lists [][]int, l []int) bool {
	return slices.ContainsFunc(lists, func(x []int) bool { return slices.Equal(x, l) })
}

// upTo is 1, 2, .., n.
func upTo(n int) []int {
	l := make([]int, n)
	for i := range l {
		l[i] = i + 1
	}
	return l
}

// change: its places, and what it makes of rounds.
type change struct{ places, row []int }

// allChanges of n bells: from the front on, a bell stays, or two swap; found without the package's help.
func allChanges(n int) []change {
	var all []change
	var grow func(places, row []int)
	grow = func(places, row []int) {
		at := len(row)
		if at == n {
			all = append(all, change{slices.Clone(places), slices.Clone(row)})
			return
		}
		grow(append(slices.Clone(places), at+1), append(slices.Clone(row), at))
		if at+2 <= n {
			grow(places, append(slices.Clone(row), at+1, at))
		}
	}
	grow(nil, nil)
	return all
}

func placesOf(all []change) [][]int {
	var l [][]int
	for _, c := range all {
		l = append(l, c.places)
	}
	return l
}

// wrongCounts are no numbers of bells.
func wrongCounts() []int {
	return []int{math.MinInt, -12, -1, 0, api.MaxBells + 1, api.MaxBells + 2, 100, math.MaxInt}
}

// P1.

func TestCheckTakesAllChanges(t *testing.T) {
	for n := 1; n <= api.MaxBells; n++ {
		for _, c := range allChanges(n) {
			if e := place.Check(n, c.places); e != api.OK {
				t.Errorf("Check(%d, %v) = %d", n, c.places, e)
			}
		}
	}
}

// Every list of up to five numbers from -1 to two more than there are bells.
func TestCheckOfAllShortLists(t *testing.T) {
	for n := 1; n <= 5; n++ {
		may := placesOf(allChanges(n))
		taken := 0
		var grow func(l []int)
		grow = func(l []int) {
			want := api.ErrPlace
			if contains(may, l) {
				want = api.OK
				taken++
			}
			if e := place.Check(n, l); e != want {
				t.Errorf("Check(%d, %v) = %d, want %d", n, l, e, want)
			}
			if len(l) < 5 {
				for p := -1; p <= n+2; p++ {
					grow(append(l, p))
				}
			}
		}
		grow(nil)
		if taken != len(may) {
			t.Errorf("%d bells: %d lists were taken, want %d", n, taken, len(may))
		}
	}
}

// Every set of places of MaxBells, and of one less.
func TestCheckOfAllSets(t *testing.T) {
	for _, n := range []int{api.MaxBells - 1, api.MaxBells} {
		may := placesOf(allChanges(n))
		for set := range 1 << n {
			var l []int
			for i := range n {
				if set>>i&1 == 1 {
					l = append(l, i+1)
				}
			}
			want := api.ErrPlace
			if contains(may, l) {
				want = api.OK
			}
			if e := place.Check(n, l); e != want {
				t.Errorf("Check(%d, %v) = %d, want %d", n, l, e, want)
			}
		}
	}
}

type wrongPlaces struct {
	name   string
	n      int
	places []int
	e      api.Errno
}

func wrongChanges() []wrongPlaces {
	return []wrongPlaces{
		{"none made of one", 1, nil, api.ErrPlace},
		{"none made of three", 3, []int{}, api.ErrPlace},
		{"none made of eleven", 11, nil, api.ErrPlace},
		{"place 0", 4, []int{0}, api.ErrPlace},
		{"place 0 and others", 3, []int{0, 1, 2, 3}, api.ErrPlace},
		{"one above", 4, []int{1, 5}, api.ErrPlace},
		{"twice", 4, []int{1, 1, 4}, api.ErrPlace},
		{"twice, with nothing else", 2, []int{1, 1}, api.ErrPlace},
		{"falling", 4, []int{4, 1}, api.ErrPlace},
		{"one ahead", 4, []int{2}, api.ErrPlace},
		{"one between", 4, []int{1, 3}, api.ErrPlace},
		{"one behind", 4, []int{3}, api.ErrPlace},
		{"one ahead and one behind", 3, []int{2}, api.ErrPlace},
		{"one ahead of all of MaxBells", 12, []int{2, 3, 4, 5, 6, 7, 8, 9, 10, 11, 12}, api.ErrPlace},
		{"all of MaxBells and one more", 12, upTo(13), api.ErrPlace},
		{"the greatest number", 4, []int{math.MaxInt}, api.ErrPlace},
		{"the least number", 4, []int{math.MinInt}, api.ErrPlace},
		{"from the least number on", 4, []int{math.MinInt, 1, 4}, api.ErrPlace},
		{"the greatest, then the least number", 4, []int{1, math.MaxInt, math.MinInt, 4}, api.ErrPlace},
		{"far too many", 12, make([]int, 100000), api.ErrPlace},
	}
}

func TestCheckAndRowRefuse(t *testing.T) {
	l := wrongChanges()
	for _, n := range wrongCounts() {
		l = append(l,
			wrongPlaces{"wrong count", n, nil, api.ErrCount}, wrongPlaces{"wrong count", n, []int{1}, api.ErrCount},
			wrongPlaces{"wrong count, wrong places", n, []int{2, 2}, api.ErrCount},
			wrongPlaces{"wrong count, all made", n, upTo(13), api.ErrCount})
	}
	for _, w := range l {
		if e := place.Check(w.n, w.places); e != w.e {
			t.Errorf("%s, %d bells: Check = %d, want %d", w.name, w.n, e, w.e)
		}
		if r, e := place.Row(w.n, w.places); e != w.e || len(r) != 0 {
			t.Errorf("%s, %d bells: Row = %v, %d, want %d", w.name, w.n, r, e, w.e)
		}
	}
}

func TestRow(t *testing.T) {
	for _, c := range []struct {
		n           int
		places, row []int
	}{
		{1, []int{1}, []int{0}},
		{2, nil, []int{1, 0}},
		{2, []int{1, 2}, []int{0, 1}},
		{4, []int{1, 4}, []int{0, 2, 1, 3}},
		{6, []int{}, []int{1, 0, 3, 2, 5, 4}},
		{5, []int{3}, []int{1, 0, 2, 4, 3}},
		{6, []int{1, 2, 3, 4}, []int{0, 1, 2, 3, 5, 4}},
		{12, nil, []int{1, 0, 3, 2, 5, 4, 7, 6, 9, 8, 11, 10}},
		{12, upTo(12), []int{0, 1, 2, 3, 4, 5, 6, 7, 8, 9, 10, 11}},
	} {
		if r, e := place.Row(c.n, c.places); e != api.OK || !slices.Equal(r, c.row) {
			t.Errorf("Row(%d, %v) = %v, %d, want %v", c.n, c.places, r, e, c.row)
		}
	}
}

func TestRowOfAllChanges(t *testing.T) {
	for n := 1; n <= api.MaxBells; n++ {
		for _, c := range allChanges(n) {
			if r, e := place.Row(n, c.places); e != api.OK || !slices.Equal(r, c.row) {
				t.Errorf("Row(%d, %v) = %v, %d, want %v", n, c.places, r, e, c.row)
			}
		}
	}
}

// P3.

func TestPrint(t *testing.T) {
	for _, c := range []struct {
		n    int
		l    [][]int
		text string
	}{
		{1, [][]int{{1}}, "1"},
		{1, [][]int{{1}, {1}}, "1.1"},
		{2, [][]int{{}}, "x"},
		{2, [][]int{nil, {1, 2}, {1, 2}, nil, nil}, "x12.12xx"},
		{6, [][]int{{1, 6}, nil, {1, 2}}, "16x12"},
		{5, [][]int{{3}, {1}, {1, 2, 3, 4, 5}}, "3.1.12345"},
		{12, [][]int{upTo(12), {1, 12}, {11, 12}, {9, 10}, {1, 10}}, "1234567890ET.1T.ET.90.10"},
	} {
		if s, e := place.Print(c.n, c.l); e != api.OK || s != c.text {
			t.Errorf("Print(%d, %v) = %q, %d, want %q", c.n, c.l, s, e, c.text)
		}
	}
}

func TestPrintRefuses(t *testing.T) {
	cross, bad := []int{}, []int{2}
	for _, c := range []struct {
		name string
		n    int
		l    [][]int
		e    api.Errno
	}{
		{"nothing", 4, nil, api.ErrCount},
		{"an empty list", 4, [][]int{}, api.ErrCount},
		{"one more than MaxChanges", 4, slices.Repeat([][]int{cross}, api.MaxChanges+1), api.ErrCount},
		{"too many, all wrong", 4, slices.Repeat([][]int{bad}, api.MaxChanges+1), api.ErrCount},
		{"a wrong one first", 4, [][]int{bad, cross}, api.ErrPlace},
		{"a wrong one last", 4, append(slices.Repeat([][]int{cross}, api.MaxChanges-1), bad), api.ErrPlace},
		{"a cross of five", 5, [][]int{{1}, cross}, api.ErrPlace},
		{"no bells", 0, [][]int{cross}, api.ErrCount},
		{"no bells, wrong places", 0, [][]int{bad}, api.ErrCount},
		{"one bell too many", 13, [][]int{{1}}, api.ErrCount},
		{"one bell too many, and nothing", 13, nil, api.ErrCount},
		{"below nothing", math.MinInt, [][]int{cross}, api.ErrCount},
		{"far above", math.MaxInt, [][]int{cross}, api.ErrCount},
	} {
		if s, e := place.Print(c.n, c.l); e != c.e || s != "" {
			t.Errorf("%s: Print = %q, %d, want %d", c.name, s, e, c.e)
		}
	}
	for _, w := range wrongChanges() {
		if s, e := place.Print(w.n, [][]int{upTo(w.n), w.places}); e != w.e || s != "" {
			t.Errorf("%s: Print = %q, %d, want %d", w.name, s, e, w.e)
		}
	}
}

func TestThereAndBack(t *testing.T) {
	try := func(n int, l [][]int) {
		t.Helper()
		s, e := place.Print(n, l)
		if e != api.OK {
			t.Fatalf("Print(%d, %v): %d", n, l, e)
		}
		if back, e := place.Parse(n, s); e != api.OK || !same(back, l) {
			t.Errorf("%d bells: Parse(%q) = %v, %d, want %v", n, s, back, e, l)
		}
	}
	for n := 1; n <= api.MaxBells; n++ {
		all := placesOf(allChanges(n))
		for i, a := range all {
			b := all[(i*7+3)%len(all)]
			try(n, [][]int{a})
			try(n, [][]int{a, b})
			try(n, [][]int{a, a, b, a})
		}
		try(n, slices.Repeat([][]int{upTo(n)}, api.MaxChanges))
		for from := 0; from < len(all); from += api.MaxChanges {
			try(n, all[from:min(from+api.MaxChanges, len(all))])
		}
	}
}

// X1, X2.

// roomy lists have more behind them in memory.
func roomy(l [][]int) [][]int {
	var out [][]int
	for _, x := range l {
		out = append(out, append(slices.Clone(x), 77, 78)[:len(x)])
	}
	return append(out, []int{79})[:len(l)]
}

// untouched: do roomy lists still have what they had, and behind them too?
func untouched(lists, l [][]int) bool {
	for _, x := range lists {
		if !slices.Equal(x[len(x):len(x)+2], []int{77, 78}) {
			return false
		}
	}
	return same(lists, l) && slices.Equal(lists[:len(l)+1][len(l)], []int{79})
}

func TestListsHandedInStay(t *testing.T) {
	for _, l := range [][][]int{{{}, {1, 4}, {1, 2}, {1, 2, 3, 4}}, {{2}}, {{1, 4}, {4, 1}}, {{13}, nil}} {
		for _, n := range []int{0, 3, 4, 13} {
			given := roomy(l)
			place.Print(n, given)
			for _, places := range given {
				place.Check(n, places)
				place.Row(n, places)
			}
			if !untouched(given, l) {
				t.Errorf("%v became %v", l, given)
			}
		}
	}
}

// spoil writes into all of a list's memory, that behind its end too.
func spoil(l []int) {
	l = l[:cap(l)]
	for i := range l {
		l[i] = -5
	}
}

func TestRowsAreFresh(t *testing.T) {
	places := []int{1, 2, 3, 4}
	first, _ := place.Row(4, places)
	second, _ := place.Row(4, places)
	spoil(first)
	if !slices.Equal(places, upTo(4)) || !slices.Equal(second, []int{0, 1, 2, 3}) {
		t.Errorf("Row shares memory: %v, %v", places, second)
	}
}

func TestChangesShareNoMemory(t *testing.T) {
	for _, text := range []string{"&x14x12,34", "&14.12.14.23", "14.14.14", "&1.2.3,+x4,&23.1234.14x"} {
		want, e := place.Parse(4, text)
		if e != api.OK {
			t.Fatalf("Parse(%q): %d", text, e)
		}
		for i := range want {
			got, _ := place.Parse(4, text)
			spoil(got[i])
			got[i] = want[i]
			if !same(got, want) {
				t.Errorf("Parse(%q): the %d-th shares memory: %v", text, i, got)
			}
		}
	}
}

func TestAnswersHangOnArgumentsAlone(t *testing.T) {
	for range 3 {
		if l, e := place.Parse(6, "&x16,12"); e != api.OK || !same(l, [][]int{{}, {1, 6}, {}, {1, 2}}) {
			t.Errorf("Parse = %v, %d", l, e)
		}
		for _, wrong := range []string{"&x", "&x.", "12", "1z", "&&", strings.Repeat("x", api.MaxChanges+1)} {
			place.Parse(6, wrong)
			place.Parse(5, wrong)
		}
	}
}
