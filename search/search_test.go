package search_test

import (
	"slices"
	"testing"

	"campanile/api"
	"campanile/call"
	"campanile/place"
	"campanile/search"
	"campanile/truth"
)

func same(a, b [][]int) bool { return slices.EqualFunc(a, b, slices.Equal[[]int]) }

// of is so many times a number.
func of(times, number int) []int { return slices.Repeat([]int{number}, times) }

// changesOf reads changes from a text; none: there are none.
func changesOf(bells int, text string) [][]int {
	if text == "" {
		return nil
	}
	changes, e := place.Parse(bells, text)
	if e != api.OK {
		panic(text)
	}
	return changes
}

// quest: what is looked for.
type quest struct {
	m           api.Method
	calls       []api.Call
	leads, many int
}

// asked: a method and calls (by the signs a, b, ..), told by texts of changes.
func asked(bells int, changes string, leads, many int, calls ...string) quest {
	q := quest{m: api.Method{Name: "Tested", Bells: bells, Changes: changesOf(bells, changes)}, leads: leads, many: many}
	for i, text := range calls {
		q.calls = append(q.calls, api.Call{Sign: rune('a' + i), Changes: changesOf(bells, text)})
	}
	return q
}

// bobMinor has the usual calls: a lead without one, a bob, a single.
func bobMinor(leads, many int) quest {
	q := asked(6, "&x16x16x16,12", leads, many, "", "14", "1234")
	for i, sign := range "pbs" {
		q.calls[i].Sign = sign
	}
	return q
}

func touchesOf(q quest) ([][]int, api.Errno) {
	return search.Touches(q.m, q.calls, q.leads, q.many)
}

// drawn numbers, the same each time.
func drawn(number uint64) func(most int) int {
	return func(most int) int {
		number = number*6364136223846793005 + 1442695040888963407
		return int(number >> 33 % uint64(most))
	}
}

func drawnChanges(next func(int) int, bells, many int) [][]int {
	var changes [][]int
	for range many {
		places := []int{}
		for p := 1; p <= bells; p++ {
			if p == bells || next(3) == 0 {
				places = append(places, p)
			} else {
				p++
			}
		}
		changes = append(changes, places)
	}
	return changes
}

func drawnQuest(next func(int) int, bells, changes, calls, leads int) quest {
	q := quest{m: api.Method{Name: "Tested", Bells: bells, Changes: drawnChanges(next, bells, 1+next(changes))}}
	for i := range 1 + next(calls) {
		many := min(next(4), len(q.m.Changes))
		q.calls = append(q.calls, api.Call{Sign: rune('a' + i), Changes: drawnChanges(next, bells, many)})
	}
	q.leads, q.many = 1+next(leads), 1+next(api.MaxFound)
	return q
}

// lists are all of one number or more, up to so many, each from 0 on and below most: each ahead of those that begin with it.
func lists(most, long int) [][]int {
	var all [][]int
	var behind func(list []int)
	behind = func(list []int) {
		for number := range most {
			longer := append(slices.Clone(list), number)
			all = append(all, longer)
			if len(longer) < long {
				behind(longer)
			}
		}
	}
	behind(nil)
	return all
}

// met is what a search meets, in order: how many beginnings up to each touch, these touches, and how many beginnings in all.
type met struct {
	ahead   []int
	touches [][]int
	all     int
}

// byTruth asks of each list of calls, whether it is true, and comes round.
func byTruth(q quest) met {
	var w met
	for _, list := range lists(len(q.calls), q.leads) {
		report, _ := truth.Prove(q.m, q.calls, list)
		if report.True {
			w.all++
		}
		if len(list) == q.leads && report.True && report.Round {
			w.ahead, w.touches = append(w.ahead, w.all), append(w.touches, list)
		}
	}
	return w
}

// byHand rings bell by bell, without the program's help, until there are more than so many beginnings.
func byHand(q quest, enough int) met {
	var w met
	rounds := make([]byte, q.m.Bells)
	for i := range rounds {
		rounds[i] = byte(i)
	}
	times := map[string]int{} // how often each row was rung
	var behind func(list []int, last []byte)
	behind = func(list []int, last []byte) {
		for c := range q.calls {
			if w.all > enough {
				return
			}
			rows, head := handLead(q, c, last)
			twice := false
			for _, r := range rows {
				times[r]++
				twice = twice || times[r] > 1
			}
			longer := append(slices.Clone(list), c)
			if !twice {
				w.all++
			}
			if !twice && len(longer) < q.leads {
				behind(longer, head)
			}
			if !twice && len(longer) == q.leads && slices.Equal(head, rounds) {
				w.ahead, w.touches = append(w.ahead, w.all), append(w.touches, longer)
			}
			for _, r := range rows {
				times[r]--
			}
		}
	}
	behind(nil, rounds)
	return w
}

// handLead: the rows of a lead, and the row behind it.
func handLead(q quest, c int, head []byte) (rows []string, last []byte) {
	r, instead := slices.Clone(head), q.calls[c].Changes
	for k, places := range q.m.Changes {
		rows = append(rows, string(r))
		if left := len(q.m.Changes) - k; left <= len(instead) {
			places = instead[len(instead)-left]
		}
		for i := 0; i < q.m.Bells; i++ {
			if !slices.Contains(places, i+1) {
				r[i], r[i+1] = r[i+1], r[i]
				i++
			}
		}
	}
	return rows, r
}

// told is what a search is to answer that meets this.
func told(w met, many int) ([][]int, api.Errno) {
	last := w.all
	if len(w.touches) >= many {
		last = w.ahead[many-1]
	}
	if last > api.MaxPrefixes {
		return nil, api.ErrLimit
	}
	return w.touches[:min(many, len(w.touches))], api.OK
}

// S1.

func TestTheDocumentsTouches(t *testing.T) {
	q := bobMinor(3, 5)
	touches, e := touchesOf(q)
	var texts []string
	for _, leads := range touches {
		text, _ := call.Print(q.calls, leads)
		texts = append(texts, text)
	}
	if want := []string{"3b", "b2s", "sbs", "2sb"}; e != api.OK || !slices.Equal(texts, want) {
		t.Errorf("Touches = %q, %d, want %q", texts, e, want)
	}
}

func TestTouches(t *testing.T) {
	for _, c := range []struct {
		name string
		q    quest
		want [][]int
	}{
		{"the document's", bobMinor(3, 5), [][]int{{1, 1, 1}, {1, 2, 2}, {2, 1, 2}, {2, 2, 1}}},
		{"as many as there are", bobMinor(3, 4), [][]int{{1, 1, 1}, {1, 2, 2}, {2, 1, 2}, {2, 2, 1}}},
		{"one fewer", bobMinor(3, 3), [][]int{{1, 1, 1}, {1, 2, 2}, {2, 1, 2}}},
		{"two", bobMinor(3, 2), [][]int{{1, 1, 1}, {1, 2, 2}}},
		{"the first one", bobMinor(3, 1), [][]int{{1, 1, 1}}},
		{"as many as may be", bobMinor(3, api.MaxFound), [][]int{{1, 1, 1}, {1, 2, 2}, {2, 1, 2}, {2, 2, 1}}},
		{"none of one lead", bobMinor(1, 5), nil},
		{"none of two leads", bobMinor(2, 5), nil},
		{"the first of five leads is a course", bobMinor(5, 1), [][]int{{0, 0, 0, 0, 0}}},

		{"a lead that is rounds", asked(2, "12", 1, 1, ""), [][]int{{0}}},
		{"twice that is false", asked(2, "12", 2, 1, ""), nil},
		{"a lead that is not", asked(2, "x", 1, 1, ""), nil},
		{"twice it comes round", asked(2, "x", 2, 1, ""), [][]int{{0, 0}}},
		{"three times it is not round", asked(2, "x", 3, 1, ""), nil},
		{"four times it is round, but false", asked(2, "x", 4, 1, ""), nil},
		{"calls that do the same", asked(2, "x", 2, 9, "", "x"), [][]int{{0, 0}, {0, 1}, {1, 0}, {1, 1}}},
		{"calls that do the same, fewer are asked for", asked(2, "x", 2, 3, "", "x"), [][]int{{0, 0}, {0, 1}, {1, 0}}},
		{"a call makes it come round", asked(2, "x", 2, 9, "", "12"), [][]int{{0, 0}}},
		{"a call comes round at once", asked(2, "x", 1, 9, "", "12"), [][]int{{1}}},
		{"round too early", asked(3, "3.1", 2, 9, "3"), nil},
		{"false within a lead", asked(3, "3.3.1.3.1.3.1.3", 1, 9, ""), nil},
		{"false within a lead but for a call", asked(3, "3.3.3.3", 1, 9, "", "3.1.3", "3.1.1.3", "1.3.1.3"), nil},
		{"a call of all", asked(3, "3.3.1.3.1.3", 1, 9, "", "3.1.3.1.3.1", "1.3.1.3.1"), [][]int{{1}, {2}}},
		{"all six rows, by leads of one change", asked(3, "3", 6, 9, "", "1"), [][]int{{0, 1, 0, 1, 0, 1}, {1, 0, 1, 0, 1, 0}}},
		{"all six rows, each lead of all rows", asked(3, "3.1.3.1.3.1", 1, 9, "", "3"), [][]int{{0}}},
		{"seven rows of three bells", asked(3, "3", 7, 9, "", "1"), nil},
		{"a last row that was there, but isn't rounds", asked(3, "3", 2, 9, "", "1", "123"), [][]int{{0, 0}, {1, 1}}},
	} {
		if got, e := touchesOf(c.q); e != api.OK || !same(got, c.want) {
			t.Errorf("%s: Touches = %v, %d, want %v", c.name, got, e, c.want)
		}
	}
}

func TestTouchesAreThoseThatAreTrueAndComeRound(t *testing.T) {
	next := drawn(67)
	kinds := map[string]int{}
	for range 3000 {
		q := drawnQuest(next, 2+next(6), 1+next(8), 3, 5)
		if next(2) == 0 {
			q.many = 1 + next(4)
		}
		w := byTruth(q)
		if hand := byHand(q, api.MaxPrefixes); hand.all != w.all || !slices.Equal(hand.ahead, w.ahead) || !same(hand.touches, w.touches) {
			t.Fatalf("the tests differ: %v: %v, %v", q, w, hand)
		}
		kinds[kindOf(w, q.many)]++
		want, e := told(w, q.many)
		if got, f := touchesOf(q); f != e || !same(got, want) {
			t.Errorf("Touches(%v) = %v, %d, want %v, %d", q, got, f, want, e)
		}
	}
	for _, kind := range []string{"none", "fewer", "just as many", "more"} {
		if kinds[kind] < 10 {
			t.Errorf("too few of the kind %q: %v", kind, kinds)
		}
	}
}

// kindOf: how many touches there are, to how many are asked for.
func kindOf(w met, many int) string {
	switch {
	case len(w.touches) == 0:
		return "none"
	case len(w.touches) < many:
		return "fewer"
	case len(w.touches) == many:
		return "just as many"
	}
	return "more"
}

// Longer ones, of many beginnings: bell by bell the same is found.
func TestLongerTouches(t *testing.T) {
	next := drawn(71)
	kinds := map[string]int{}
	for range 150 {
		q := drawnQuest(next, 4+next(3), 1+next(4), 8, api.MaxSearch)
		w := byHand(q, api.MaxPrefixes)
		want, e := told(w, q.many)
		if e == api.ErrLimit {
			kinds["too many"]++
		} else {
			kinds[kindOf(w, q.many)]++
		}
		if got, f := touchesOf(q); f != e || !same(got, want) {
			t.Errorf("Touches(%v) = %v, %d, want %v, %d", q, got, f, want, e)
		}
	}
	for _, kind := range []string{"none", "fewer", "more", "too many"} {
		if kinds[kind] < 10 {
			t.Errorf("too few of the kind %q: %v", kind, kinds)
		}
	}
}
