package search_test

import (
	"math"
	"reflect"
	"slices"
	"testing"

	"campanile/api"
	"campanile/call"
)

type wrong struct {
	why string
	q   quest
	e   api.Errno
}

// wrongCalls are methods and calls that call.Check refuses.
func wrongCalls() []wrong {
	m := bobMinor(3, 5).m
	bad := [][]int{{2}}
	method := func(name string, bells int, changes ...[]int) quest {
		return quest{api.Method{Name: name, Bells: bells, Changes: changes}, bobMinor(3, 5).calls, 3, 5}
	}
	calls := func(l ...api.Call) quest { return quest{m, l, 3, 5} }
	p := api.Call{Sign: 'p'}
	return []wrong{
		{"no method", quest{leads: 3, many: 5}, api.ErrName},
		{"a name that is none", method(" a", 6, []int{}), api.ErrName},
		{"a name that is none, no bells, wrong places", method("", 0, []int{2}), api.ErrName},
		{"no bells", method("a", 0, []int{}), api.ErrCount},
		{"one bell", method("a", 1, []int{1}), api.ErrCount},
		{"one bell too many", method("a", 13, []int{13}), api.ErrCount},
		{"far too many bells", method("a", math.MaxInt, []int{}), api.ErrCount},
		{"no changes", method("a", 6), api.ErrCount},
		{"one change too many", method("a", 6, slices.Repeat([][]int{{}}, api.MaxChanges+1)...), api.ErrCount},
		{"wrong places", method("a", 6, []int{}, []int{2}), api.ErrPlace},
		{"no calls", calls(), api.ErrCount},
		{"too many calls", calls(slices.Repeat([]api.Call{p}, api.MaxCalls+1)...), api.ErrCount},
		{"a sign that may not be", calls(p, api.Call{Sign: '('}), api.ErrWord},
		{"two of one sign", calls(p, p), api.ErrDouble},
		{"a call longer than a lead", calls(p, api.Call{Sign: 'l', Changes: slices.Repeat([][]int{nil}, 13)}), api.ErrCount},
		{"wrong places of a call", calls(p, api.Call{Sign: 'w', Changes: bad}), api.ErrPlace},
		{"wrong places of a call, then a sign that may not be", calls(api.Call{Sign: 'w', Changes: bad}, api.Call{Sign: '1'}), api.ErrPlace},
	}
}

// wrongNumbers are of leads and of touches, where the calls may be.
func wrongNumbers() []wrong {
	return []wrong{
		{"no leads", bobMinor(0, 5), api.ErrCount},
		{"one lead too many", bobMinor(api.MaxSearch+1, 5), api.ErrCount},
		{"fewer leads than none", bobMinor(-1, 5), api.ErrCount},
		{"the least number of leads", bobMinor(math.MinInt, 5), api.ErrCount},
		{"the greatest number of leads", bobMinor(math.MaxInt, 5), api.ErrCount},
		{"no touches", bobMinor(3, 0), api.ErrCount},
		{"one touch too many", bobMinor(3, api.MaxFound+1), api.ErrCount},
		{"fewer touches than none", bobMinor(3, -1), api.ErrCount},
		{"the least number of touches", bobMinor(3, math.MinInt), api.ErrCount},
		{"the greatest number of touches", bobMinor(3, math.MaxInt), api.ErrCount},
		{"no leads, no touches", bobMinor(0, 0), api.ErrCount},
		{"no leads of many beginnings", hunts(0, 8, 0, 8, 3), api.ErrCount},
		{"one lead too many of many beginnings", hunts(api.MaxSearch+1, 8, 0, 8, 3), api.ErrCount},
		{"too many beginnings", hunts(api.MaxSearch-1, 8, 0, 8, 3), api.ErrLimit},
	}
}

func TestSearchesAreRefused(t *testing.T) {
	for _, w := range wrongCalls() {
		if e := call.Check(w.q.m, w.q.calls); e != w.e {
			t.Fatalf("%s: call.Check = %d, want %d", w.why, e, w.e)
		}
	}
	for _, w := range wrongNumbers() {
		if e := call.Check(w.q.m, w.q.calls); e != api.OK {
			t.Fatalf("%s: call.Check = %d", w.why, e)
		}
	}
	for _, w := range slices.Concat(wrongCalls(), wrongNumbers()) {
		if got, e := touchesOf(w.q); e != w.e || len(got) != 0 {
			t.Errorf("%s: Touches = %v, %d, want %d", w.why, got, e, w.e)
		}
	}
}

// What call.Check says comes ahead of what the numbers say.
func TestWrongCallsAreToldAheadOfNumbers(t *testing.T) {
	for _, w := range wrongCalls() {
		for _, numbers := range [][2]int{{0, 5}, {api.MaxSearch + 1, 5}, {3, 0}, {3, api.MaxFound + 1}, {-1, -1}} {
			q := w.q
			q.leads, q.many = numbers[0], numbers[1]
			if got, e := touchesOf(q); e != w.e || len(got) != 0 {
				t.Errorf("%s, %v: Touches = %v, %d, want %d", w.why, numbers, got, e, w.e)
			}
		}
	}
}

// Numbers up to the bounds may be.
func TestNumbersThatMayBe(t *testing.T) {
	for _, leads := range []int{1, 2, api.MaxSearch - 1, api.MaxSearch} {
		for _, many := range []int{1, 2, api.MaxFound - 1, api.MaxFound} {
			q := hunts(leads, 1, 0, 8, 3)
			q.many = many
			if got, e := touchesOf(q); e != api.OK || len(got) != leads/api.MaxSearch {
				t.Errorf("%d leads, %d touches: Touches = %v, %d", leads, many, got, e)
			}
		}
	}
	for many := 1; many <= api.MaxFound; many++ {
		q := hunts(4, 3, 0, 4)
		q.many = many
		if got, e := touchesOf(q); e != api.OK || len(got) != many {
			t.Errorf("Touches = %d touches, %d, want %d", len(got), e, many)
		}
	}
}

// The longest leads, as many of them and as many calls as may be.
func TestLongestSearches(t *testing.T) {
	next := drawn(107)
	q := quest{m: api.Method{Name: "Tested", Bells: 12, Changes: drawnLead(next, 12, api.MaxChanges)}, many: api.MaxFound}
	for i := range api.MaxCalls {
		q.calls = append(q.calls, api.Call{Sign: rune('a' + i), Changes: drawnChanges(next, 12, 1+next(40))})
	}
	for _, c := range []struct {
		calls, leads int
		e            api.Errno
	}{{api.MaxCalls, 3, api.OK}, {1, api.MaxSearch, api.OK}, {api.MaxCalls, api.MaxSearch, api.ErrLimit}} {
		x := q
		x.calls, x.leads = q.calls[:c.calls], c.leads
		want, e := told(byHand(x, api.MaxPrefixes), x.many)
		if got, f := touchesOf(x); f != e || e != c.e || !same(got, want) {
			t.Errorf("%v: Touches = %v, %d, want %v, %d", c, got, f, want, e)
		}
	}
}

// drawnLead are changes by which no row comes twice.
func drawnLead(next func(int) int, bells, many int) [][]int {
	var changes [][]int
	for len(changes) < many {
		// With one change more than is taken, the last row is looked at, too.
		longer := append(slices.Clone(changes), drawnChanges(next, bells, 1)...)
		one := quest{m: api.Method{Name: "Tested", Bells: bells, Changes: append(longer, nil)}, calls: []api.Call{{}}, leads: 1}
		if byHand(one, 1).all == 1 {
			changes = longer
		}
	}
	return changes
}

// X1, X2.

func copiedChanges(changes [][]int) [][]int {
	var l [][]int
	for _, places := range changes {
		l = append(l, append([]int{}, places...))
	}
	return l
}

func copied(q quest) quest {
	q.m.Changes = copiedChanges(q.m.Changes)
	q.calls = slices.Clone(q.calls)
	for i, c := range q.calls {
		q.calls[i].Changes = copiedChanges(c.Changes)
	}
	return q
}

func roomyChanges(changes [][]int) [][]int {
	var l [][]int
	for _, places := range changes {
		l = append(l, append(slices.Clone(places), 77, 78)[:len(places)])
	}
	return append(l, []int{79})[:len(changes)]
}

// roomy: all its lists have more behind them in memory.
func roomy(q quest) quest {
	q = copied(q)
	q.m.Changes = roomyChanges(q.m.Changes)
	for i, c := range q.calls {
		q.calls[i].Changes = roomyChanges(c.Changes)
	}
	q.calls = append(q.calls, api.Call{Sign: 'R', Changes: [][]int{{76}}})[:len(q.calls)]
	return q
}

func sameChanges(given, changes [][]int) bool {
	for _, places := range given {
		if !slices.Equal(places[len(places):len(places)+2], []int{77, 78}) {
			return false
		}
	}
	return same(given, changes) && slices.Equal(given[:len(changes)+1][len(changes)], []int{79})
}

// untouched: has a roomy one still what it had, and behind its lists too?
func untouched(given, q quest) bool {
	if given.m.Name != q.m.Name || given.m.Bells != q.m.Bells || !sameChanges(given.m.Changes, q.m.Changes) || len(given.calls) != len(q.calls) {
		return false
	}
	for i, c := range given.calls {
		if c.Sign != q.calls[i].Sign || !sameChanges(c.Changes, q.calls[i].Changes) {
			return false
		}
	}
	behind := given.calls[:len(q.calls)+1][len(q.calls)]
	return behind.Sign == 'R' && same(behind.Changes, [][]int{{76}})
}

// several searches, of which some are refused.
func several() []quest {
	next := drawn(109)
	l := []quest{bobMinor(3, 5), bobMinor(5, 50), bobMinor(1, 1), hunts(5, 4, 1, 5), hunts(api.MaxSearch, 8, 0, 8, 3)}
	for range 60 {
		l = append(l, drawnQuest(next, 2+next(6), 6, 4, 5))
	}
	for _, w := range slices.Concat(wrongCalls(), wrongNumbers()) {
		l = append(l, w.q)
	}
	return l
}

func TestListsHandedInStay(t *testing.T) {
	for _, q := range several() {
		given := roomy(q)
		got, e := touchesOf(given)
		if !untouched(given, q) {
			t.Errorf("%v became %v", q, given)
		}
		// What stands behind a list is not read.
		if want, f := touchesOf(copied(q)); e != f || !reflect.DeepEqual(got, want) {
			t.Errorf("%v, with more behind it: %v, %d, want %v, %d", q, got, e, want, f)
		}
	}
}

// spoil writes into all of a list's memory, that behind its end too.
func spoil(l []int) {
	l = l[:cap(l)]
	for i := range l {
		l[i] = -5
	}
}

func TestAnswersShareNoMemory(t *testing.T) {
	for _, q := range several() {
		given := roomy(q)
		want, e := touchesOf(given)
		for i := range want {
			got, _ := touchesOf(given)
			spoil(got[i])
			got[i] = want[i]
			if !reflect.DeepEqual(got, want) || !untouched(given, q) {
				t.Errorf("%v: touch %d shares memory", q, i)
			}
		}
		if got, f := touchesOf(given); f != e || !reflect.DeepEqual(got, want) {
			t.Errorf("%v: an answer is kept: %v, %d, want %v, %d", q, got, f, want, e)
		}
	}
}

func TestAnswersHangOnArgumentsAlone(t *testing.T) {
	l := several()
	var first [][][]int
	var errors []api.Errno
	for _, q := range l {
		touches, e := touchesOf(q)
		first, errors = append(first, touches), append(errors, e)
	}
	for i := len(l) - 1; i >= 0; i-- {
		if again, e := touchesOf(l[i]); e != errors[i] || !reflect.DeepEqual(again, first[i]) {
			t.Errorf("%v: %v, %d, then %v, %d", l[i], first[i], errors[i], again, e)
		}
	}
}
