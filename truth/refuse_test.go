package truth_test

import (
	"math"
	"reflect"
	"slices"
	"testing"

	"campanile/api"
	"campanile/call"
	"campanile/method"
	"campanile/truth"
)

type wrong struct {
	why string
	x   touch
	e   api.Errno
}

func wrongMethods() []wrong {
	bad := []int{2}
	named := func(name string) api.Method { return api.Method{Name: name, Bells: 6, Changes: [][]int{{}}} }
	many := func(changes int) api.Method { return methodOf(4, slices.Repeat([][]int{{1, 4}}, changes)...) }
	var l []wrong
	for _, c := range []struct {
		why string
		m   api.Method
		e   api.Errno
	}{
		{"no method", api.Method{}, api.ErrName},
		{"a name that is none", named(" a"), api.ErrName},
		{"a name too long", named("abcdefghijklmnopqrstu"), api.ErrName},
		{"no name, no bells, wrong places", api.Method{Changes: [][]int{bad}}, api.ErrName},
		{"no bells", methodOf(0, []int{}), api.ErrCount},
		{"one bell", methodOf(1, []int{1}), api.ErrCount},
		{"one bell too many", methodOf(13, []int{13}), api.ErrCount},
		{"fewer than none", methodOf(-4, []int{}), api.ErrCount},
		{"far too many", methodOf(math.MaxInt, []int{}), api.ErrCount},
		{"no changes", methodOf(6), api.ErrCount},
		{"one change too many", many(api.MaxChanges + 1), api.ErrCount},
		{"too many, wrong places", methodOf(6, slices.Repeat([][]int{bad}, 201)...), api.ErrCount},
		{"wrong places", methodOf(6, []int{}, bad), api.ErrPlace},
		{"places that fall", methodOf(6, []int{6, 1}), api.ErrPlace},
		{"a cross of five", methodOf(5, []int{}), api.ErrPlace},
	} {
		l = append(l, wrong{c.why, touch{c.m, usual(), []int{0}}, c.e}, wrong{c.why + ", no calls", touch{m: c.m}, c.e})
	}
	return l
}

// wrongTouches have a method that may be.
func wrongTouches() []wrong {
	m := bobMinor()
	two := [][]int{{1, 4}, {1, 6}}
	pair := []api.Call{{Sign: 'p'}, {Sign: 'w', Changes: two}}
	long := methodOf(4, slices.Repeat([][]int{{1, 4}}, 200)...)
	longPair := []api.Call{{Sign: 'p'}, {Sign: 'w', Changes: [][]int{{}, {}}}}
	nine := slices.Repeat(plain(), api.MaxCalls+1)
	return []wrong{
		{"no calls", touch{m, nil, []int{0}}, api.ErrCount},
		{"no calls, no leads", touch{m, nil, nil}, api.ErrCount},
		{"too many calls", touch{m, nine, []int{0}}, api.ErrCount},
		{"a sign that may not be", touch{m, []api.Call{{Sign: '('}}, []int{9}}, api.ErrWord},
		{"two of one sign", touch{m, append(plain(), plain()...), nil}, api.ErrDouble},
		{"a call longer than a lead", touch{m, []api.Call{{Sign: 'l', Changes: slices.Repeat([][]int{nil}, 13)}}, []int{0}}, api.ErrCount},
		{"wrong places", touch{m, []api.Call{{Sign: 'l', Changes: [][]int{{2}}}}, []int{0}}, api.ErrPlace},
		{"wrong places of a call that no lead has", touch{m, []api.Call{{Sign: 'p'}, {Sign: 'l', Changes: [][]int{{2}}}}, []int{0}}, api.ErrPlace},
		{"no leads", touch{m, usual(), nil}, api.ErrCount},
		{"an empty list", touch{m, usual(), []int{}}, api.ErrCount},
		{"one lead too many", touch{m, usual(), of(api.MaxLeads+1, 0)}, api.ErrCount},
		{"too many, none a call's", touch{m, usual(), of(api.MaxLeads+1, 3)}, api.ErrCount},
		{"a number that is no call's", touch{m, usual(), []int{3}}, api.ErrValue},
		{"the last one below 0", touch{m, usual(), []int{0, 1, -1}}, api.ErrValue},
		{"the least number", touch{m, usual(), []int{math.MinInt, 0}}, api.ErrValue},
		{"the greatest number", touch{m, usual(), []int{math.MaxInt}}, api.ErrValue},
		{"a lead too many for MaxRows", touch{long, plain(), of(101, 0)}, api.ErrLimit},
		{"MaxChanges and MaxLeads", touch{long, plain(), of(api.MaxLeads, 0)}, api.ErrLimit},

		{"a sign that may not be, a long call", touch{m, []api.Call{{Sign: 'w', Changes: two}, {Sign: ' '}}, []int{0}}, api.ErrWord},
		{"too many leads, a long call", touch{m, pair, of(api.MaxLeads+1, 1)}, api.ErrCount},
		{"a long call, then a number that is no call's", touch{m, pair, []int{1, 2}}, api.ErrValue},
		{"a long call, too many rows", touch{long, longPair, of(101, 1)}, api.ErrLimit},
	}
}

// A touch that may not be is refused as May refuses it, with nothing beside the error.
func TestTouchesAreRefused(t *testing.T) {
	for _, w := range slices.Concat(wrongMethods(), wrongTouches()) {
		if e := call.May(w.x.m, w.x.calls, w.x.leads); e != w.e {
			t.Fatalf("%s: May = %d, want %d", w.why, e, w.e)
		}
		if report, e := truth.Prove(w.x.m, w.x.calls, w.x.leads); e != w.e || report != (api.Report{}) {
			t.Errorf("%s: Prove = %+v, %d, want %d", w.why, report, e, w.e)
		}
		if heads, e := truth.Heads(w.x.m, w.x.calls, w.x.leads); e != w.e || len(heads) != 0 {
			t.Errorf("%s: Heads = %v, %d, want %d", w.why, heads, e, w.e)
		}
		if is, e := truth.ByHeads(w.x.m, w.x.calls, w.x.leads); e != w.e || is {
			t.Errorf("%s: ByHeads = %t, %d, want %d", w.why, is, e, w.e)
		}
	}
}

func TestFalseRefuses(t *testing.T) {
	for _, w := range wrongMethods() {
		if e := method.Check(w.x.m); e != w.e {
			t.Fatalf("%s: Check = %d, want %d", w.why, e, w.e)
		}
		if heads, self, e := truth.False(w.x.m); e != w.e || len(heads) != 0 || self {
			t.Errorf("%s: False = %v, %t, %d, want %d", w.why, heads, self, e, w.e)
		}
	}
}

// X1, X2.

func copiedChanges(changes [][]int) [][]int {
	var l [][]int
	for _, places := range changes {
		l = append(l, append([]int{}, places...))
	}
	return l
}

func copied(x touch) touch {
	x.m.Changes = copiedChanges(x.m.Changes)
	x.calls = slices.Clone(x.calls)
	for i, c := range x.calls {
		x.calls[i].Changes = copiedChanges(c.Changes)
	}
	x.leads = slices.Clone(x.leads)
	return x
}

func roomyChanges(changes [][]int) [][]int {
	var l [][]int
	for _, places := range changes {
		l = append(l, append(slices.Clone(places), 77, 78)[:len(places)])
	}
	return append(l, []int{79})[:len(changes)]
}

// roomy: all its lists have more behind them in memory.
func roomy(x touch) touch {
	x = copied(x)
	x.m.Changes = roomyChanges(x.m.Changes)
	for i, c := range x.calls {
		x.calls[i].Changes = roomyChanges(c.Changes)
	}
	x.calls = append(x.calls, api.Call{Sign: 'R', Changes: [][]int{{76}}})[:len(x.calls)]
	x.leads = append(x.leads, 75, 74)[:len(x.leads)]
	return x
}

func sameChanges(given, changes [][]int) bool {
	for _, places := range given {
		if !slices.Equal(places[len(places):len(places)+2], []int{77, 78}) {
			return false
		}
	}
	return same(given, changes) && slices.Equal(given[:len(changes)+1][len(changes)], []int{79})
}

// untouched: has a roomy one still what it had, and behind its lists too?
func untouched(given, x touch) bool {
	if given.m.Name != x.m.Name || given.m.Bells != x.m.Bells || !sameChanges(given.m.Changes, x.m.Changes) || len(given.calls) != len(x.calls) {
		return false
	}
	for i, c := range given.calls {
		if c.Sign != x.calls[i].Sign || !sameChanges(c.Changes, x.calls[i].Changes) {
			return false
		}
	}
	behind := given.calls[:len(x.calls)+1][len(x.calls)]
	return behind.Sign == 'R' && same(behind.Changes, [][]int{{76}}) && slices.Equal(given.leads, x.leads) && slices.Equal(given.leads[len(x.leads):len(x.leads)+2], []int{75, 74})
}

// answer: all that the package says of a touch.
type answer struct {
	report     api.Report
	heads, bad [][]int
	self, is   bool
	e          [4]api.Errno
}

func answered(x touch) answer {
	var a answer
	a.report, a.e[0] = truth.Prove(x.m, x.calls, x.leads)
	a.heads, a.e[1] = truth.Heads(x.m, x.calls, x.leads)
	a.bad, a.self, a.e[2] = truth.False(x.m)
	a.is, a.e[3] = truth.ByHeads(x.m, x.calls, x.leads)
	return a
}

// several touches, of which some may not be.
func several() []touch {
	next := drawn(59)
	l := []touch{bobbed("3(ppb)"), bobbed("5p"), {bobMinor(), usual(), []int{0, 3}}, {bobMinor(), usual(), nil}}
	for range 60 {
		l = append(l, drawnTouch(next, 2+next(11), 10, 8, 2))
	}
	for _, w := range slices.Concat(wrongMethods(), wrongTouches()) {
		l = append(l, w.x)
	}
	return l
}

func TestListsHandedInStay(t *testing.T) {
	for _, x := range several() {
		given := roomy(x)
		got := answered(given)
		if !untouched(given, x) {
			t.Errorf("%v became %v", x, given)
		}
		// What stands behind a list is not read.
		if want := answered(copied(x)); !reflect.DeepEqual(got, want) {
			t.Errorf("%v, with more behind it: %v, want %v", x, got, want)
		}
	}
}

// spoil writes into all of a list's memory, that behind its end too.
func spoil(l []int) {
	l = l[:cap(l)]
	for i := range l {
		l[i] = -5
	}
}

func TestAnswersShareNoMemory(t *testing.T) {
	still := touch{methodOf(4, []int{1, 2, 3, 4}), plain(), of(5, 0)}
	for _, x := range []touch{bobbed("3(ppb)"), bobbed("p"), still, drawnTouch(drawn(61), 12, 5, 9, 1)} {
		want := answered(copied(x))
		for i := range want.heads {
			given := copied(x)
			got := answered(given)
			spoil(got.heads[i])
			got.heads[i] = want.heads[i]
			if !reflect.DeepEqual(got, want) || !untouched(roomy(given), x) || !reflect.DeepEqual(answered(given), want) {
				t.Errorf("%v: head %d shares memory", x, i)
			}
		}
		for i := range want.bad {
			given := copied(x)
			got := answered(given)
			spoil(got.bad[i])
			got.bad[i] = want.bad[i]
			if !reflect.DeepEqual(got, want) || !untouched(roomy(given), x) || !reflect.DeepEqual(answered(given), want) {
				t.Errorf("%v: false head %d shares memory", x, i)
			}
		}
	}
}

// The lists of rows themselves are the caller's, too: one may add to them, and take from them.
func TestListsOfRowsAreFresh(t *testing.T) {
	x := bobbed("3(ppb)")
	first, want := answered(x), answered(x)
	for _, l := range [][][]int{first.heads, first.bad} {
		l = l[:cap(l)]
		for i := range l {
			l[i] = nil
		}
	}
	if got := answered(x); !reflect.DeepEqual(got, want) {
		t.Errorf("a list is kept: %v", got)
	}
}

func TestAnswersHangOnArgumentsAlone(t *testing.T) {
	l := several()
	var first []answer
	for _, x := range l {
		first = append(first, answered(x))
	}
	for i := len(l) - 1; i >= 0; i-- {
		if again := answered(l[i]); !reflect.DeepEqual(again, first[i]) {
			t.Errorf("%v: %v, then %v", l[i], first[i], again)
		}
	}
}
