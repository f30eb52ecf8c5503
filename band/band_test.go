package band_test

import (
	"slices"
	"strings"
	"testing"

	"campanile/api"
	"campanile/band"
	"campanile/call"
	"campanile/place"
	"campanile/row"
)

func same(a, b [][]int) bool { return slices.EqualFunc(a, b, slices.Equal[[]int]) }

// rowsOf reads rows from a text.
func rowsOf(text string) [][]int {
	var rows [][]int
	for _, word := range strings.Fields(text) {
		r, e := row.Read(word)
		if e != api.OK {
			panic(word)
		}
		rows = append(rows, r)
	}
	return rows
}

// changesOf reads changes from a text; none: there are none.
func changesOf(bells int, text string) [][]int {
	if text == "" {
		return nil
	}
	changes, e := place.Parse(bells, text)
	if e != api.OK {
		panic(text)
	}
	return changes
}

// tune: what a band is to ring.
type tune struct {
	m     api.Method
	calls []api.Call
	leads []int
	slips []api.Slip
}

func rung(q tune) ([][]int, api.Errno) { return band.Ring(q.m, q.calls, q.leads, q.slips) }

// asked: a method, a touch, and calls (by the signs a, b, ..), told by texts.
func asked(bells int, changes, touch string, calls ...string) tune {
	q := tune{m: api.Method{Name: "Tested", Bells: bells, Changes: changesOf(bells, changes)}}
	for i, text := range calls {
		q.calls = append(q.calls, api.Call{Sign: rune('a' + i), Changes: changesOf(bells, text)})
	}
	leads, e := call.Parse(q.calls, touch)
	if e != api.OK {
		panic(touch)
	}
	q.leads = leads
	return q
}

// slipping is the same with slips.
func slipping(q tune, slips ...api.Slip) tune {
	q.slips = slips
	return q
}

// bobMinor: a is a lead without a call, b a bob, c a single.
func bobMinor(touch string) tune {
	return asked(6, "&x16x16x16,12", touch, "", "14", "1234")
}

// byHand rings row by row, without the program's help, and then slip by slip.
func byHand(q tune) [][]int {
	r := make([]int, q.m.Bells)
	for i := range r {
		r[i] = i
	}
	rows := [][]int{slices.Clone(r)}
	for _, c := range q.leads {
		instead := q.calls[c].Changes
		for k, places := range q.m.Changes {
			if left := len(q.m.Changes) - k; left <= len(instead) {
				places = instead[len(instead)-left]
			}
			for i := 0; i < len(r); i++ {
				if !slices.Contains(places, i+1) {
					r[i], r[i+1] = r[i+1], r[i]
					i++
				}
			}
			rows = append(rows, slices.Clone(r))
		}
	}
	for _, s := range q.slips {
		for at := s.At; at < s.At+s.For && at < len(rows); at++ {
			rows[at][s.Place-1], rows[at][s.Place] = rows[at][s.Place], rows[at][s.Place-1]
		}
	}
	return rows
}

// drawn numbers, the same each time.
func drawn(number uint64) func(most int) int {
	return func(most int) int {
		number = number*6364136223846793005 + 1442695040888963407
		return int(number >> 33 % uint64(most))
	}
}

func drawnChanges(next func(int) int, bells, many int) [][]int {
	var changes [][]int
	for range many {
		places := []int{}
		for p := 1; p <= bells; p++ {
			if p == bells || next(3) == 0 {
				places = append(places, p)
			} else {
				p++
			}
		}
		changes = append(changes, places)
	}
	return changes
}

func drawnTune(next func(int) int, bells, changes, leads, slips int) tune {
	q := tune{m: api.Method{Name: "Tested", Bells: bells, Changes: drawnChanges(next, bells, 1+next(changes))}}
	for i := range 1 + next(api.MaxCalls) {
		many := next(len(q.m.Changes) + 1)
		if next(2) == 0 {
			many = min(many, 1)
		}
		q.calls = append(q.calls, api.Call{Sign: rune('a' + i), Changes: drawnChanges(next, bells, many)})
	}
	for range 1 + next(leads) {
		q.leads = append(q.leads, next(len(q.calls)))
	}
	q.slips = drawnSlips(next, q, next(slips+1))
	return q
}

func drawnSlips(next func(int) int, q tune, many int) []api.Slip {
	var slips []api.Slip
	rows := len(q.leads)*len(q.m.Changes) + 1
	for range many {
		slips = append(slips, api.Slip{At: next(rows), Place: 1 + next(q.m.Bells-1), For: 1 + next(rows)})
	}
	return slips
}

// B1.

func TestTheDocumentsBand(t *testing.T) {
	q := slipping(bobMinor("3(aab)"), api.Slip{At: 3, Place: 2, For: 4})
	got, e := rung(q)
	rows, f := call.Rows(q.m, q.calls, q.leads)
	if e != api.OK || f != api.OK || len(got) != 109 {
		t.Fatalf("Ring = %d rows, %d; Rows: %d", len(got), e, f)
	}
	if wrong := band.Wrong(got, rows); !slices.Equal(wrong, []int{3, 4, 5, 6}) {
		t.Errorf("Wrong = %v, want 3 4 5 6", wrong)
	}
	if want := rowsOf("241635 462153 426513 654231 645321 563412"); !same(got[2:8], want) {
		t.Errorf("Ring = %v, want %v", got[2:8], want)
	}
}

func TestRing(t *testing.T) {
	three := asked(3, "3.1", "3a", "")
	called := asked(4, "x.14.x.14", "ab", "", "12", "x")
	for _, c := range []struct {
		name, want string
		q          tune
	}{
		{"no slip", "123 213 231 321 312 132 123", three},
		{"a slip of two rows", "123 123 321 321 312 132 123", slipping(three, api.Slip{At: 1, Place: 1, For: 2})},
		{"the first row", "213 213 231 321 312 132 123", slipping(three, api.Slip{At: 0, Place: 1, For: 1})},
		{"the last row", "123 213 231 321 312 132 132", slipping(three, api.Slip{At: 6, Place: 2, For: 1})},
		{"the last row, and as many as may be", "123 213 231 321 312 132 132", slipping(three, api.Slip{At: 6, Place: 2, For: api.MaxRows})},
		{"just up to the last row", "123 213 231 321 132 312 213", slipping(three, api.Slip{At: 4, Place: 1, For: 3})},
		{"one row beyond the last", "123 213 231 321 132 312 213", slipping(three, api.Slip{At: 4, Place: 1, For: 4})},
		{"one row short of the last", "123 213 231 321 132 312 123", slipping(three, api.Slip{At: 4, Place: 1, For: 2})},
		{"all rows", "132 231 213 312 321 123 132", slipping(three, api.Slip{At: 0, Place: 2, For: 7})},
		{"all rows, and as many as may be", "132 231 213 312 321 123 132", slipping(three, api.Slip{At: 0, Place: 2, For: api.MaxRows})},
		{"two that meet", "123 213 312 321 312 132 123", slipping(three, api.Slip{At: 2, Place: 1, For: 1}, api.Slip{At: 2, Place: 2, For: 1})},
		{"two that meet, turned about", "123 213 123 321 312 132 123", slipping(three, api.Slip{At: 2, Place: 2, For: 1}, api.Slip{At: 2, Place: 1, For: 1})},
		{"two that meet in one row of theirs", "123 123 312 312 312 132 123", slipping(three, api.Slip{At: 1, Place: 1, For: 2}, api.Slip{At: 2, Place: 2, For: 2})},
		{"two that meet in one row of theirs, turned about", "123 123 123 312 312 132 123", slipping(three, api.Slip{At: 2, Place: 2, For: 2}, api.Slip{At: 1, Place: 1, For: 2})},
		{"one that mends the other", "123 213 231 321 312 132 123", slipping(three, api.Slip{At: 1, Place: 2, For: 4}, api.Slip{At: 1, Place: 2, For: 4})},
		{"one that mends the other for a while", "123 231 231 321 321 132 123", slipping(three, api.Slip{At: 1, Place: 2, For: 4}, api.Slip{At: 2, Place: 2, For: 2})},
		{"three that meet", "123 213 132 321 312 132 123", slipping(three, api.Slip{At: 2, Place: 1, For: 1}, api.Slip{At: 2, Place: 2, For: 1}, api.Slip{At: 2, Place: 1, For: 1})},
		{"side by side", "123 123 213 321 312 132 123", slipping(three, api.Slip{At: 2, Place: 2, For: 1}, api.Slip{At: 1, Place: 1, For: 1})},

		{"a call", "1234 2143 2413 4231 4321 3412 3142 1324 1342", called},
		{"a call, and a slip over it", "1234 2143 2413 4231 4321 3412 3124 1342 1324", slipping(called, api.Slip{At: 6, Place: 3, For: 3})},
		{"both ends", "1234 1234 2413 4231 4321 3412 3142 1324 1342", slipping(called, api.Slip{At: 1, Place: 3, For: 1}, api.Slip{At: 1, Place: 1, For: 1})},
		{"one call all the time", "1234 2143 2413 4231 2413 4231 4321 3412 4321", asked(4, "x.14.x.14", "2c", "", "12", "x")},
		{"a call of a whole lead", "1234 1324 3142 1324 1234 2143 2413 4231 4321", asked(4, "x.14.x.14", "ba", "", "14.x.x.14")},
		{"leads of one change", "12 21 12 12 21", asked(2, "x", "2aba", "", "12")},
		{"two bells that slip", "12 12 21 12 21", slipping(asked(2, "x", "2aba", "", "12"), api.Slip{At: 1, Place: 1, For: 2})},
		{"one change", "12 21", asked(2, "x", "a", "")},
		{"one change, and both rows slip", "21 12", slipping(asked(2, "x", "a", ""), api.Slip{At: 0, Place: 1, For: 2})},
		{"twelve bells, the last two of them", "1234567890TE 2143658709TE", slipping(asked(12, "x", "a", ""), api.Slip{At: 0, Place: 11, For: 1})},
	} {
		if got, e := rung(c.q); e != api.OK || !same(got, rowsOf(c.want)) {
			t.Errorf("%s: Ring = %v, %d, want %s", c.name, got, e, c.want)
		}
	}
}

// What is heard is the rows of the touch, if nobody slips.
func TestRingIsTheTouch(t *testing.T) {
	next := drawn(149)
	for range 600 {
		q := drawnTune(next, 2+next(11), 1+next(20), 1+next(8), 0)
		got, e := rung(q)
		if rows, f := call.Rows(q.m, q.calls, q.leads); e != api.OK || f != api.OK || !same(got, rows) || len(band.Wrong(got, rows)) != 0 {
			t.Errorf("%v: Ring = %v, %d, want %v, %d", q, got, e, rows, f)
		}
	}
}

func TestRingIsWhatIsRungByHand(t *testing.T) {
	next := drawn(151)
	meet, turned := 0, 0
	for range 1200 {
		q := drawnTune(next, 2+next(11), 1+next(12), 1+next(6), 1+next(api.MaxFaults))
		want := byHand(q)
		if got, e := rung(q); e != api.OK || !same(got, want) {
			t.Errorf("%v: Ring = %v, %d, want %v", q, got, e, want)
		}
		slices.Reverse(q.slips)
		about := byHand(q)
		if got, e := rung(q); e != api.OK || !same(got, about) {
			t.Errorf("%v: Ring = %v, %d, want %v", q, got, e, about)
		}
		if len(q.slips) > 1 {
			meet++
		}
		if !same(want, about) {
			turned++
		}
	}
	if meet < 500 || turned < 300 {
		t.Errorf("of %d touches with several slips only %d hang on their order", meet, turned)
	}
}

// The longest touches, with as many bells, leads, calls and slips as may be.
func TestLongestTouches(t *testing.T) {
	next := drawn(157)
	for _, size := range [][2]int{{50, 400}, {200, 100}, {1, 400}, {200, 1}, {199, 100}} {
		q := tune{m: api.Method{Name: "Tested", Bells: 12, Changes: drawnChanges(next, 12, size[0])}}
		for i := range api.MaxCalls {
			q.calls = append(q.calls, api.Call{Sign: rune('a' + i), Changes: drawnChanges(next, 12, i*size[0]/7)})
		}
		for range size[1] {
			q.leads = append(q.leads, next(api.MaxCalls))
		}
		for _, slips := range []int{0, api.MaxFaults - 1, api.MaxFaults} {
			q.slips = drawnSlips(next, q, slips)
			if slips > 1 {
				q.slips[0] = api.Slip{At: 0, Place: 1, For: api.MaxRows}
				q.slips[1] = api.Slip{At: size[0] * size[1], Place: 11, For: api.MaxRows}
			}
			if got, e := rung(q); e != api.OK || len(got) != size[0]*size[1]+1 || !same(got, byHand(q)) {
				t.Errorf("%v, %d slips: Ring = %d rows, %d, or not those by hand", size, slips, len(got), e)
			}
		}
	}
}

// B2.

func TestWrong(t *testing.T) {
	for _, c := range []struct {
		name       string
		rung, rows [][]int
		want       []int
	}{
		{"nothing", nil, nil, nil},
		{"nothing rung", nil, rowsOf("12 21"), nil},
		{"nothing rung, an empty list", [][]int{}, [][]int{}, nil},
		{"no rows", rowsOf("12 21"), nil, []int{0, 1}},
		{"all the same", rowsOf("123 213 231"), rowsOf("123 213 231"), nil},
		{"the first one", rowsOf("132 213 231"), rowsOf("123 213 231"), []int{0}},
		{"one in the middle", rowsOf("123 231 231"), rowsOf("123 213 231"), []int{1}},
		{"the last one", rowsOf("123 213 213"), rowsOf("123 213 231"), []int{2}},
		{"all of them", rowsOf("213 231 123"), rowsOf("123 213 231"), []int{0, 1, 2}},
		{"rung longer", rowsOf("123 213 231 321"), rowsOf("123 213"), []int{2, 3}},
		{"rung longer, one wrong", rowsOf("132 213 231"), rowsOf("123 213"), []int{0, 2}},
		{"rung shorter", rowsOf("123 213"), rowsOf("123 213 231"), nil},
		{"rung shorter, one wrong", rowsOf("123 231"), rowsOf("123 213 231"), []int{1}},
		{"one bell fewer", rowsOf("12 213"), rowsOf("123 213"), []int{0}},
		{"one bell more", rowsOf("123 2134"), rowsOf("123 213"), []int{1}},
		{"no bells, in both", [][]int{nil, {}, nil}, [][]int{nil, nil, {}}, nil},
		{"no bells, in one", [][]int{nil, {}, {0}}, [][]int{{0}, {0}, nil}, []int{0, 1, 2}},
		{"no bells, where there is no row", [][]int{{0}, nil, {}}, [][]int{{0}}, []int{1, 2}},
		{"lists that are no rows", [][]int{{-5, 77}, {0, 0}, {99}}, [][]int{{-5, 77}, {0, 1}, {99}}, []int{1}},
	} {
		if got := band.Wrong(c.rung, c.rows); !slices.Equal(got, c.want) {
			t.Errorf("%s: Wrong = %v, want %v", c.name, got, c.want)
		}
	}
}

// One slip is heard as wrong just as long as it is.
func TestASlipIsWrongAsLongAsItIs(t *testing.T) {
	next := drawn(163)
	for range 300 {
		q := drawnTune(next, 2+next(11), 10, 6, 0)
		rows, _ := rung(q)
		q.slips = drawnSlips(next, q, 1)
		got, e := rung(q)
		var want []int
		for at := q.slips[0].At; at < min(q.slips[0].At+q.slips[0].For, len(rows)); at++ {
			want = append(want, at)
		}
		if wrong := band.Wrong(got, rows); e != api.OK || !slices.Equal(wrong, want) {
			t.Errorf("%v: Wrong = %v, want %v", q, wrong, want)
		}
	}
}
