package band_test

import (
	"math"
	"reflect"
	"slices"
	"testing"

	"campanile/api"
	"campanile/band"
	"campanile/call"
)

// B1, wrong inputs.

func TestSlipsThatMayBeAndThatMayNot(t *testing.T) {
	for _, c := range []struct {
		why        string
		n, changes int
		slip       api.Slip
		e          api.Errno
	}{
		{"an ordinary one", 6, 60, api.Slip{At: 3, Place: 2, For: 4}, api.OK},
		{"At 0", 6, 60, api.Slip{At: 0, Place: 2, For: 4}, api.OK},
		{"At -1", 6, 60, api.Slip{At: -1, Place: 2, For: 4}, api.ErrValue},
		{"At just as many as changes", 6, 60, api.Slip{At: 60, Place: 2, For: 4}, api.OK},
		{"At one more", 6, 60, api.Slip{At: 61, Place: 2, For: 4}, api.ErrValue},
		{"At the least number", 6, 60, api.Slip{At: math.MinInt, Place: 2, For: 4}, api.ErrValue},
		{"At the greatest number", 6, 60, api.Slip{At: math.MaxInt, Place: 2, For: 4}, api.ErrValue},
		{"Place 0", 6, 60, api.Slip{At: 3, Place: 0, For: 4}, api.ErrValue},
		{"Place 1", 6, 60, api.Slip{At: 3, Place: 1, For: 4}, api.OK},
		{"Place n - 1", 6, 60, api.Slip{At: 3, Place: 5, For: 4}, api.OK},
		{"Place n", 6, 60, api.Slip{At: 3, Place: 6, For: 4}, api.ErrValue},
		{"Place -1", 6, 60, api.Slip{At: 3, Place: -1, For: 4}, api.ErrValue},
		{"Place the least number", 6, 60, api.Slip{At: 3, Place: math.MinInt, For: 4}, api.ErrValue},
		{"Place the greatest number", 6, 60, api.Slip{At: 3, Place: math.MaxInt, For: 4}, api.ErrValue},
		{"For 0", 6, 60, api.Slip{At: 3, Place: 2, For: 0}, api.ErrValue},
		{"For 1", 6, 60, api.Slip{At: 3, Place: 2, For: 1}, api.OK},
		{"For -1", 6, 60, api.Slip{At: 3, Place: 2, For: -1}, api.ErrValue},
		{"For MaxRows", 6, 60, api.Slip{At: 3, Place: 2, For: api.MaxRows}, api.OK},
		{"For one more", 6, 60, api.Slip{At: 3, Place: 2, For: api.MaxRows + 1}, api.ErrValue},
		{"For the least number", 6, 60, api.Slip{At: 3, Place: 2, For: math.MinInt}, api.ErrValue},
		{"For the greatest number", 6, 60, api.Slip{At: 3, Place: 2, For: math.MaxInt}, api.ErrValue},
		{"nothing at all", 6, 60, api.Slip{}, api.ErrValue},
		{"two bells", 2, 60, api.Slip{At: 3, Place: 1, For: 4}, api.OK},
		{"two bells, Place 2", 2, 60, api.Slip{At: 3, Place: 2, For: 4}, api.ErrValue},
		{"one bell", 1, 60, api.Slip{At: 3, Place: 1, For: 4}, api.ErrValue},
		{"no bells", 0, 60, api.Slip{At: 3, Place: 1, For: 4}, api.ErrValue},
		{"no bells, Place -1", 0, 60, api.Slip{At: 3, Place: -1, For: 4}, api.ErrValue},
		{"fewer bells than none", -1, 60, api.Slip{At: 3, Place: 1, For: 4}, api.ErrValue},
		{"the least number of bells", math.MinInt, 60, api.Slip{At: 3, Place: 1, For: 4}, api.ErrValue},
		{"the least number of bells, a great place", math.MinInt, 60, api.Slip{At: 3, Place: math.MaxInt, For: 4}, api.ErrValue},
		{"the greatest number of bells", math.MaxInt, 60, api.Slip{At: 3, Place: math.MaxInt - 1, For: 4}, api.OK},
		{"the greatest number of bells, one place more", math.MaxInt, 60, api.Slip{At: 3, Place: math.MaxInt, For: 4}, api.ErrValue},
		{"no changes", 6, 0, api.Slip{At: 0, Place: 2, For: 4}, api.OK},
		{"no changes, At 1", 6, 0, api.Slip{At: 1, Place: 2, For: 4}, api.ErrValue},
		{"fewer changes than none", 6, -1, api.Slip{At: 0, Place: 2, For: 4}, api.ErrValue},
		{"fewer changes than none, At -1", 6, -1, api.Slip{At: -1, Place: 2, For: 4}, api.ErrValue},
		{"the least number of changes", 6, math.MinInt, api.Slip{At: 0, Place: 2, For: 4}, api.ErrValue},
		{"the greatest number of changes", 6, math.MaxInt, api.Slip{At: math.MaxInt, Place: 2, For: 4}, api.OK},
	} {
		if e := band.May([]api.Slip{c.slip}, c.n, c.changes); e != c.e {
			t.Errorf("%s: May = %d, want %d", c.why, e, c.e)
		}
	}
}

// All numbers around the bounds, one with the other.
func TestSlipsAroundTheBounds(t *testing.T) {
	for n := -2; n <= 4; n++ {
		for changes := -2; changes <= 3; changes++ {
			if e := band.May(nil, n, changes); e != api.OK {
				t.Errorf("May(nil, %d, %d) = %d", n, changes, e)
			}
			may := map[api.Slip]int{}
			for at := range max(changes+1, 0) {
				for p := range max(n-1, 0) {
					for _, long := range []int{1, 2, api.MaxRows} {
						may[api.Slip{At: at, Place: p + 1, For: long}] = 1
					}
				}
			}
			for at := -2; at <= 5; at++ {
				for p := -2; p <= 5; p++ {
					for _, long := range []int{-1, 0, 1, 2, api.MaxRows, api.MaxRows + 1} {
						s, want := api.Slip{At: at, Place: p, For: long}, api.ErrValue
						if may[s] == 1 {
							want = api.OK
						}
						if e := band.May([]api.Slip{s}, n, changes); e != want {
							t.Errorf("May(%v, %d, %d) = %d, want %d", s, n, changes, e, want)
						}
					}
				}
			}
		}
	}
}

func TestAsManySlipsAsMayBe(t *testing.T) {
	good, bad := api.Slip{At: 1, Place: 1, For: 1}, api.Slip{At: 1, Place: 0, For: 1}
	q := bobMinor("a")
	for many := range api.MaxFaults + 1 {
		q.slips = slices.Repeat([]api.Slip{good}, many)
		if e := band.May(q.slips, 6, 12); e != api.OK {
			t.Errorf("%d slips: May = %d", many, e)
		}
		if got, e := rung(q); e != api.OK || !same(got, byHand(q)) {
			t.Errorf("%d slips: Ring = %v, %d", many, got, e)
		}
		// A wrong one is found wherever it is.
		for i := range q.slips {
			q.slips[i] = bad
			if e := band.May(q.slips, 6, 12); e != api.ErrValue {
				t.Errorf("slip %d of %d: May = %d, want ErrValue", i, many, e)
			}
			if got, e := rung(q); e != api.ErrValue || len(got) != 0 {
				t.Errorf("slip %d of %d: Ring = %v, %d, want ErrValue", i, many, got, e)
			}
			q.slips[i] = good
		}
	}
	for _, s := range []api.Slip{good, bad} {
		for _, many := range []int{api.MaxFaults + 1, 1000} {
			q.slips = slices.Repeat([]api.Slip{s}, many)
			if e := band.May(q.slips, 6, 12); e != api.ErrCount {
				t.Errorf("%d slips: May = %d, want ErrCount", many, e)
			}
			if e := band.May(q.slips, 0, -1); e != api.ErrCount {
				t.Errorf("%d slips of no bells: May = %d, want ErrCount", many, e)
			}
			if got, e := rung(q); e != api.ErrCount || len(got) != 0 {
				t.Errorf("%d slips: Ring = %v, %d, want ErrCount", many, got, e)
			}
		}
	}
}

// A touch has as many changes as its leads together, and slips are held against these and its bells.
func TestSlipsOfATouch(t *testing.T) {
	for _, q := range []tune{bobMinor("a"), bobMinor("2abc"), asked(2, "x", "a", ""), asked(12, "x.1T", "40a", ""), asked(3, "3", "7b", "", "1")} {
		changes := len(q.leads) * len(q.m.Changes)
		for _, c := range []struct {
			slip api.Slip
			e    api.Errno
		}{
			{api.Slip{At: 0, Place: 1, For: 1}, api.OK},
			{api.Slip{At: changes, Place: 1, For: 1}, api.OK},
			{api.Slip{At: changes, Place: q.m.Bells - 1, For: api.MaxRows}, api.OK},
			{api.Slip{At: changes + 1, Place: 1, For: 1}, api.ErrValue},
			{api.Slip{At: -1, Place: 1, For: 1}, api.ErrValue},
			{api.Slip{At: 0, Place: 0, For: 1}, api.ErrValue},
			{api.Slip{At: 0, Place: q.m.Bells, For: 1}, api.ErrValue},
			{api.Slip{At: 0, Place: 1, For: 0}, api.ErrValue},
			{api.Slip{At: 0, Place: 1, For: api.MaxRows + 1}, api.ErrValue},
			{api.Slip{At: math.MaxInt, Place: math.MaxInt, For: math.MaxInt}, api.ErrValue},
			{api.Slip{At: math.MinInt, Place: math.MinInt, For: math.MinInt}, api.ErrValue},
		} {
			x := slipping(q, c.slip)
			if e := band.May(x.slips, q.m.Bells, changes); e != c.e {
				t.Errorf("%v, %v: May = %d, want %d", q, c.slip, e, c.e)
			}
			got, e := rung(x)
			if e != c.e || e != api.OK && len(got) != 0 || e == api.OK && !same(got, byHand(x)) {
				t.Errorf("%v: Ring = %v, %d, want %d", x, got, e, c.e)
			}
		}
	}
}

type wrong struct {
	why string
	q   tune
	e   api.Errno
}

// wrongTouches are those that call.May refuses.
func wrongTouches() []wrong {
	good := bobMinor("2abc")
	method := func(name string, bells int, changes ...[]int) tune {
		q := good
		q.m = api.Method{Name: name, Bells: bells, Changes: changes}
		return q
	}
	calls := func(l ...api.Call) tune {
		q := good
		q.calls = l
		return q
	}
	leads := func(l ...int) tune {
		q := good
		q.leads = l
		return q
	}
	long := leads(make([]int, 101)...)
	long.m.Changes = slices.Repeat([][]int{{}, {1, 6}}, 100)
	p, bad := api.Call{Sign: 'p'}, [][]int{{2}}
	return []wrong{
		{"nothing at all", tune{}, api.ErrName},
		{"a name that is none", method(" a", 6, []int{}), api.ErrName},
		{"a name that is no rune", method("\xff", 6, []int{}), api.ErrName},
		{"a name that is none, no bells", method("", 0, []int{2}), api.ErrName},
		{"no bells", method("a", 0, []int{}), api.ErrCount},
		{"one bell", method("a", 1, []int{1}), api.ErrCount},
		{"one bell too many", method("a", 13, []int{13}), api.ErrCount},
		{"the greatest number of bells", method("a", math.MaxInt, []int{}), api.ErrCount},
		{"no changes", method("a", 6), api.ErrCount},
		{"one change too many", method("a", 6, slices.Repeat([][]int{{}}, api.MaxChanges+1)...), api.ErrCount},
		{"wrong places", method("a", 6, []int{}, []int{2}), api.ErrPlace},
		{"no calls", calls(), api.ErrCount},
		{"too many calls", calls(slices.Repeat([]api.Call{p}, api.MaxCalls+1)...), api.ErrCount},
		{"a sign that may not be", calls(p, api.Call{Sign: '('}), api.ErrWord},
		{"a sign that is no rune", calls(p, api.Call{Sign: -1}), api.ErrWord},
		{"two of one sign", calls(p, p), api.ErrDouble},
		{"a call longer than a lead", calls(p, api.Call{Sign: 'l', Changes: slices.Repeat([][]int{nil}, 13)}), api.ErrCount},
		{"wrong places of a call", calls(p, api.Call{Sign: 'w', Changes: bad}), api.ErrPlace},
		{"no leads", leads(), api.ErrCount},
		{"one lead too many", leads(make([]int, api.MaxLeads+1)...), api.ErrCount},
		{"a call that isn't there", leads(0, 3), api.ErrValue},
		{"a call below 0", leads(-1, 0), api.ErrValue},
		{"the greatest number as a call", leads(math.MaxInt), api.ErrValue},
		{"too many rows", long, api.ErrLimit},
	}
}

func TestTouchesAreRefused(t *testing.T) {
	for _, w := range wrongTouches() {
		if e := call.May(w.q.m, w.q.calls, w.q.leads); e != w.e {
			t.Fatalf("%s: call.May = %d, want %d", w.why, e, w.e)
		}
		// What call.May says comes ahead of what the slips say.
		for _, slips := range [][]api.Slip{
			nil,
			{{At: 0, Place: 1, For: 1}},
			{{At: -1, Place: 1, For: 1}},
			{{At: 0, Place: 1, For: 1}, {}},
			make([]api.Slip, api.MaxFaults+1),
		} {
			if got, e := rung(slipping(w.q, slips...)); e != w.e || len(got) != 0 {
				t.Errorf("%s, %v: Ring = %v, %d, want %d", w.why, slips, got, e, w.e)
			}
		}
	}
}

// X1, X2.

func roomyChanges(changes [][]int) [][]int {
	var l [][]int
	for _, places := range changes {
		l = append(l, append(slices.Clone(places), 77, 78)[:len(places)])
	}
	return append(l, []int{79})[:len(changes)]
}

// roomy: all its lists are others, and have more behind them in memory.
func roomy(q tune) tune {
	q.m.Changes = roomyChanges(q.m.Changes)
	q.calls = append(slices.Clone(q.calls), api.Call{Sign: 'R', Changes: [][]int{{76}}})[:len(q.calls)]
	for i, c := range q.calls {
		q.calls[i].Changes = roomyChanges(c.Changes)
	}
	q.leads = append(slices.Clone(q.leads), 75, 74)[:len(q.leads)]
	q.slips = append(slices.Clone(q.slips), api.Slip{At: 0, Place: 1, For: 73})[:len(q.slips)]
	return q
}

func sameChanges(given, changes [][]int) bool {
	for _, places := range given {
		if !slices.Equal(places[len(places):len(places)+2], []int{77, 78}) {
			return false
		}
	}
	return same(given, changes) && slices.Equal(given[:len(changes)+1][len(changes)], []int{79})
}

// untouched: has a roomy one still what it had, and behind its lists too?
func untouched(given, q tune) bool {
	is := given.m.Name == q.m.Name && given.m.Bells == q.m.Bells && sameChanges(given.m.Changes, q.m.Changes) && len(given.calls) == len(q.calls)
	for i, c := range q.calls {
		is = is && given.calls[i].Sign == c.Sign && sameChanges(given.calls[i].Changes, c.Changes)
	}
	behind := given.calls[:len(q.calls)+1][len(q.calls)]
	is = is && behind.Sign == 'R' && same(behind.Changes, [][]int{{76}})
	is = is && slices.Equal(given.leads[:len(q.leads)+2], append(slices.Clone(q.leads), 75, 74))
	return is && slices.Equal(given.slips[:len(q.slips)+1], append(slices.Clone(q.slips), api.Slip{At: 0, Place: 1, For: 73}))
}

// several to ring, of which some are refused.
func several() []tune {
	next := drawn(167)
	l := []tune{bobMinor("3(aab)"), asked(2, "x", "a", ""), asked(12, "x.1T", "12a", "")}
	for range 40 {
		l = append(l, drawnTune(next, 2+next(11), 6, 4, 5))
	}
	for _, w := range wrongTouches() {
		l = append(l, w.q, slipping(w.q, api.Slip{}))
	}
	for _, s := range []api.Slip{{}, {At: -1, Place: 1, For: 1}, {At: 0, Place: 6, For: 1}, {At: 49, Place: 1, For: 1}} {
		l = append(l, slipping(bobMinor("2abc"), s), slipping(bobMinor("2abc"), slices.Repeat([]api.Slip{s}, 21)...))
	}
	return l
}

func TestListsHandedInStay(t *testing.T) {
	for _, q := range several() {
		given := roomy(q)
		got, e := rung(given)
		may := band.May(given.slips, q.m.Bells, 30)
		wrong := band.Wrong(given.m.Changes, got)
		if !untouched(given, q) {
			t.Errorf("%v became %v", q, given)
		}
		// What stands behind a list is not read.
		if want, f := rung(q); e != f || !reflect.DeepEqual(got, want) || may != band.May(q.slips, q.m.Bells, 30) || !slices.Equal(wrong, band.Wrong(q.m.Changes, got)) {
			t.Errorf("%v, with more behind it: %v, %d, want %v, %d", q, got, e, want, f)
		}
	}
}

// spoil writes into all of a list's memory, that behind its end too.
func spoil(l []int) {
	l = l[:cap(l)]
	for i := range l {
		l[i] = -5
	}
}

func TestAnswersShareNoMemory(t *testing.T) {
	for _, q := range several() {
		given := roomy(q)
		want, e := rung(given)
		got, _ := rung(given)
		for i := range got {
			spoil(got[i])
			if !same(got[i+1:], want[i+1:]) || !untouched(given, q) {
				t.Errorf("%v: row %d shares memory", q, i)
			}
		}
		if again, f := rung(given); f != e || !reflect.DeepEqual(again, want) {
			t.Errorf("%v: an answer is kept: %v, %d, want %v, %d", q, again, f, want, e)
		}
	}
	rows, other := rowsOf("123 213 231"), rowsOf("123 231 213 321")
	first := band.Wrong(other, rows)
	spoil(first)
	if second := band.Wrong(other, rows); !slices.Equal(second, []int{1, 2, 3}) || !same(rows, rowsOf("123 213 231")) || !same(other, rowsOf("123 231 213 321")) {
		t.Errorf("Wrong = %v, want 1 2 3", second)
	}
}

// What is handed in may be written into as soon as a call has answered.
func TestListsHandedInAreNotKept(t *testing.T) {
	for _, q := range several() {
		want, e := rung(q)
		given := roomy(q)
		got, f := rung(given)
		for _, places := range given.m.Changes {
			spoil(places)
		}
		for _, c := range given.calls {
			for _, places := range c.Changes {
				spoil(places)
			}
		}
		spoil(given.leads)
		clear(given.slips)
		if e != f || !reflect.DeepEqual(got, want) {
			t.Errorf("%v: a list is kept: %v, %d, want %v, %d", q, got, f, want, e)
		}
	}
}
