package truth_test

import (
	"slices"
	"strings"
	"testing"

	"campanile/api"
	"campanile/call"
	"campanile/method"
	"campanile/truth"
)

func same(a, b [][]int) bool { return slices.EqualFunc(a, b, slices.Equal[[]int]) }

// of is so many times a number.
func of(times, number int) []int { return slices.Repeat([]int{number}, times) }

// rowsOf are rows, told by digits.
func rowsOf(text string) [][]int {
	var rows [][]int
	for _, word := range strings.Fields(text) {
		var r []int
		for _, digit := range word {
			r = append(r, int(digit-'1'))
		}
		rows = append(rows, r)
	}
	return rows
}

func bobMinor() api.Method {
	x, m := []int{}, []int{1, 6}
	return api.Method{Name: "Plain Bob Minor", Bells: 6, Changes: [][]int{x, m, x, m, x, m, x, m, x, m, x, {1, 2}}}
}

// usual calls: a lead without one, a bob, a single.
func usual() []api.Call {
	return []api.Call{{Sign: 'p'}, {Sign: 'b', Changes: [][]int{{1, 4}}}, {Sign: 's', Changes: [][]int{{1, 2, 3, 4}}}}
}

// plain is a call that leaves a lead as it is.
func plain() []api.Call { return []api.Call{{Sign: 'p'}} }

// of so many bells, a method of these changes.
func methodOf(bells int, changes ...[]int) api.Method {
	return api.Method{Name: "Tested", Bells: bells, Changes: changes}
}

// touch: a method, calls and leads.
type touch struct {
	m     api.Method
	calls []api.Call
	leads []int
}

// once is a touch of one lead: just these changes.
func once(bells int, changes ...[]int) touch {
	return touch{methodOf(bells, changes...), plain(), []int{0}}
}

func bobbed(text string) touch {
	leads, _ := call.Parse(usual(), text)
	return touch{bobMinor(), usual(), leads}
}

// drawn numbers, the same each time.
func drawn(number uint64) func(most int) int {
	return func(most int) int {
		number = number*6364136223846793005 + 1442695040888963407
		return int(number >> 33 % uint64(most))
	}
}

func drawnChanges(next func(int) int, bells, many int) [][]int {
	var changes [][]int
	for range many {
		places := []int{}
		for p := 1; p <= bells; p++ {
			if p == bells || next(3) == 0 {
				places = append(places, p)
			} else {
				p++
			}
		}
		changes = append(changes, places)
	}
	return changes
}

// drawnLead are changes by which no row comes twice, as long as there are many rows.
func drawnLead(next func(int) int, bells, many int) [][]int {
	var changes [][]int
	for len(changes) < many {
		longer := append(slices.Clone(changes), drawnChanges(next, bells, 1)...)
		if allUnlike(rung(once(bells, longer...))) {
			changes = longer
		}
	}
	return changes
}

// drawnTouch: up to so many changes a lead and leads; calls of up to so many changes.
func drawnTouch(next func(int) int, bells, changes, leads, instead int) touch {
	x := touch{m: methodOf(bells, drawnChanges(next, bells, 1+next(changes))...)}
	for i := range 1 + next(4) {
		many := min(next(instead+1), len(x.m.Changes))
		x.calls = append(x.calls, api.Call{Sign: rune('a' + i), Changes: drawnChanges(next, bells, many)})
	}
	for range 1 + next(leads) {
		x.leads = append(x.leads, next(len(x.calls)))
	}
	return x
}

// rung are a touch's rows, bell by bell, without the program's help.
func rung(x touch) [][]int {
	r := make([]int, x.m.Bells)
	for i := range r {
		r[i] = i
	}
	rows := [][]int{slices.Clone(r)}
	for _, c := range x.leads {
		instead := x.calls[c].Changes
		for k, places := range x.m.Changes {
			if left := len(x.m.Changes) - k; left <= len(instead) {
				places = instead[len(instead)-left]
			}
			for i := 0; i < x.m.Bells; i++ {
				if !slices.Contains(places, i+1) {
					r[i], r[i+1] = r[i+1], r[i]
					i++
				}
			}
			rows = append(rows, slices.Clone(r))
		}
	}
	return rows
}

func allUnlike(rows [][]int) bool {
	l := slices.Clone(rows)
	slices.SortFunc(l, slices.Compare)
	return len(slices.CompactFunc(l, slices.Equal[[]int])) == len(rows)
}

// proven holds each row against all ahead of it.
func proven(rows [][]int) api.Report {
	last := len(rows) - 1
	report := api.Report{Changes: last, Round: slices.IsSorted(rows[last]), True: true}
	for again, r := range rows[:last] {
		for before := range again {
			if slices.Equal(rows[before], r) {
				report.True, report.Again, report.Before = false, again, before
				return report
			}
		}
	}
	return report
}

// T1: Prove.

func TestProve(t *testing.T) {
	stay := []int{1, 2, 3}
	front, back := []int{3}, []int{1} // which of three bells swap
	for _, c := range []struct {
		name string
		x    touch
		want api.Report
	}{
		{"the document's", bobbed("3(ppb)"), api.Report{Changes: 108, Again: 72}},
		{"a course", bobbed("5p"), api.Report{Changes: 60, Round: true, True: true}},
		{"a course without its last lead", bobbed("4p"), api.Report{Changes: 48, True: true}},
		{"a course and one lead more", bobbed("6p"), api.Report{Changes: 72, Again: 60}},
		{"two courses", bobbed("10p"), api.Report{Changes: 120, Round: true, Again: 60}},
		{"three bobs", bobbed("3b"), api.Report{Changes: 36, Round: true, True: true}},
		{"one lead", bobbed("p"), api.Report{Changes: 12, True: true}},

		{"one row besides rounds", once(2, nil), api.Report{Changes: 1, True: true}},
		{"one that is rounds", once(2, []int{1, 2}), api.Report{Changes: 1, Round: true, True: true}},
		{"two leads of one change", touch{methodOf(2, nil), plain(), of(2, 0)}, api.Report{Changes: 2, Round: true, True: true}},
		{"three of them", touch{methodOf(2, nil), plain(), of(3, 0)}, api.Report{Changes: 3, Again: 2}},
		{"four of them", touch{methodOf(2, nil), plain(), of(4, 0)}, api.Report{Changes: 4, Round: true, Again: 2}},

		{"at the first row that may be", once(3, stay, front), api.Report{Changes: 2, Again: 1}},
		{"at the first row, and it comes round", once(3, stay, front, front), api.Report{Changes: 3, Round: true, Again: 1}},
		{"rounds at once, twice", once(3, stay, stay), api.Report{Changes: 2, Round: true, Again: 1}},
		{"at the last row but one", once(3, front, back, back, front), api.Report{Changes: 4, Round: true, Again: 3, Before: 1}},
		{"at the last row but one, which is rounds", once(3, front, front, back), api.Report{Changes: 3, Again: 2}},
		{"at the last row but one, by the one ahead", once(3, front, back, stay, front), api.Report{Changes: 4, Again: 3, Before: 2}},
		{"by the last row alone", once(3, front, back, back), api.Report{Changes: 3, True: true}},
		{"by the last row alone, like the one ahead", once(3, front, back, stay), api.Report{Changes: 3, True: true}},
		{"by the last row alone, rounds", once(3, front, front), api.Report{Changes: 2, Round: true, True: true}},
		{"all six rows and rounds", once(3, front, back, front, back, front, back), api.Report{Changes: 6, Round: true, True: true}},
		{"all six rows", once(3, front, back, front, back, front), api.Report{Changes: 5, True: true}},

		{"a row three times", once(3, front, stay, stay, back), api.Report{Changes: 4, Again: 2, Before: 1}},
		{"the first one to come again was there last", once(3, front, back, stay, back, front, front), api.Report{Changes: 6, Again: 3, Before: 2}},
		{"the first one to come again was there first", once(3, front, front, front, front, front), api.Report{Changes: 5, Again: 2}},
		{"two that come again, the second one first", once(3, front, back, front, front, back, back, front), api.Report{Changes: 7, Again: 4, Before: 2}},
	} {
		if want := proven(rung(c.x)); want != c.want {
			t.Fatalf("%s: the test itself is wrong: %+v or %+v", c.name, want, c.want)
		}
		if got, e := truth.Prove(c.x.m, c.x.calls, c.x.leads); e != api.OK || got != c.want {
			t.Errorf("%s: Prove = %+v, %d, want %+v", c.name, got, e, c.want)
		}
	}
}

func TestProveMany(t *testing.T) {
	next := drawn(31)
	wanted := map[bool]int{}
	for range 3000 {
		x := drawnTouch(next, 2+next(7), 12, 8, 12)
		want := proven(rung(x))
		wanted[want.True]++
		if got, e := truth.Prove(x.m, x.calls, x.leads); e != api.OK || got != want {
			t.Errorf("Prove(%v) = %+v, %d, want %+v", x, got, e, want)
		}
	}
	if wanted[true] < 300 || wanted[false] < 300 {
		t.Errorf("too few of a kind: %v", wanted)
	}
}

// longest are touches of MaxRows rows behind rounds, which are true; no lead has the last call.
func longest(t *testing.T) []touch {
	next := drawn(5)
	var l []touch
	for _, leads := range []int{100, api.MaxLeads} {
		for tries := 0; ; tries++ {
			if tries == 50 {
				t.Fatal("no touch was found")
			}
			x := touch{m: methodOf(12, drawnLead(next, 12, api.MaxRows/leads)...)}
			for _, sign := range "abcdefgh" {
				x.calls = append(x.calls, api.Call{Sign: sign, Changes: drawnChanges(next, 12, 1)})
			}
			for range leads {
				x.leads = append(x.leads, next(len(x.calls)-1))
			}
			if allUnlike(rung(x)) {
				l = append(l, x)
				break
			}
		}
	}
	return l
}

// ended is one of the longest touches with other changes at the end of its last lead.
func ended(x touch, changes ...[]int) touch {
	x.calls, x.leads = slices.Clone(x.calls), slices.Clone(x.leads)
	spare := len(x.calls) - 1
	x.calls[spare].Changes = changes
	x.leads[len(x.leads)-1] = spare
	return x
}

func TestProveTouchesOfMaxRows(t *testing.T) {
	swap, turn := []int{1, 2, 3, 4, 5, 6, 7, 8, 9, 10}, []int{}
	for _, x := range longest(t) {
		want := api.Report{Changes: api.MaxRows, True: true}
		if got, e := truth.Prove(x.m, x.calls, x.leads); e != api.OK || got != want {
			t.Errorf("Prove = %+v, %d, want %+v", got, e, want)
		}
		for name, c := range map[string]struct {
			changes [][]int
			want    api.Report
		}{
			"at the last row but one":   {[][]int{swap, swap, turn}, api.Report{Changes: api.MaxRows, Again: api.MaxRows - 1, Before: api.MaxRows - 3}},
			"by the last row alone":     {[][]int{turn, swap, swap}, api.Report{Changes: api.MaxRows, True: true}},
			"three rows ahead of these": {[][]int{swap, swap, turn, swap, turn}, api.Report{Changes: api.MaxRows, Again: api.MaxRows - 3, Before: api.MaxRows - 5}},
		} {
			y := ended(x, c.changes...)
			rows := rung(y)
			if !allUnlike(rows[:len(rows)-5]) {
				t.Fatalf("%s: the test itself is wrong", name)
			}
			if got, e := truth.Prove(y.m, y.calls, y.leads); e != api.OK || got != c.want {
				t.Errorf("%s: Prove = %+v, %d, want %+v", name, got, e, c.want)
			}
		}
	}
}

// T1: Heads.

func TestHeads(t *testing.T) {
	three := methodOf(3, []int{3}, []int{1})
	other := []api.Call{{Sign: 'p'}, {Sign: 'b', Changes: [][]int{{3}}}, {Sign: 'w', Changes: [][]int{{1, 2, 3}, {1, 2, 3}}}}
	for _, c := range []struct {
		name string
		x    touch
		want string
	}{
		{"the document's", bobbed("3(ppb)"), "123456 135264 156342 156423 162534 123645 123456 135264 156342"},
		{"a course", bobbed("5p"), "123456 135264 156342 164523 142635"},
		{"one lead", bobbed("b"), "123456"},
		{"one lead of one change", once(2, nil), "12"},
		{"leads of one change", touch{methodOf(2, nil), plain(), of(3, 0)}, "12 21 12"},
		{"leads without a call", touch{three, other, of(4, 0)}, "123 231 312 123"},
		{"a call of one change", touch{three, other, []int{1, 0}}, "123 123"},
		{"a call of all", touch{three, other, []int{0, 2, 0, 0}}, "123 231 231 312"},
		{"the last lead's call is not asked", touch{three, other, []int{0, 2}}, "123 231"},
	} {
		if got, e := truth.Heads(c.x.m, c.x.calls, c.x.leads); e != api.OK || !same(got, rowsOf(c.want)) {
			t.Errorf("%s: Heads = %v, %d, want %s", c.name, got, e, c.want)
		}
	}
}

func TestHeadsOfMany(t *testing.T) {
	next := drawn(37)
	l := longest(t)
	for range 500 {
		l = append(l, drawnTouch(next, 2+next(11), 30, 40, 30))
	}
	for _, x := range l {
		if got, e := truth.Heads(x.m, x.calls, x.leads); e != api.OK || !same(got, headsOf(x)) {
			t.Errorf("Heads(%v) = %v, %d", x, got, e)
		}
	}
}

// T2.

// allRows are those of so many bells, in order.
func allRows(bells int) [][]int {
	rows := [][]int{{}}
	for range bells {
		var longer [][]int
		for _, r := range rows {
			for bell := range bells {
				if !slices.Contains(r, bell) {
					longer = append(longer, append(slices.Clone(r), bell))
				}
			}
		}
		rows = longer
	}
	return rows
}

func changed(a, b []int) []int {
	r := make([]int, len(a))
	for i, place := range b {
		r[i] = a[place]
	}
	return r
}

func among(rows [][]int, r []int) bool {
	return slices.ContainsFunc(rows, func(other []int) bool { return slices.Equal(r, other) })
}

// falseHead says of one row whether it is a false head of a lead.
func falseHead(lead [][]int, h []int) bool {
	return !slices.IsSorted(h) && slices.ContainsFunc(lead, func(r []int) bool { return among(lead, changed(h, r)) })
}

func leadOf(m api.Method) [][]int {
	rows := rung(touch{m, plain(), []int{0}})
	return rows[:len(rows)-1]
}

func TestFalse(t *testing.T) {
	stay := []int{1, 2, 3}
	front, back := []int{3}, []int{1}
	for _, c := range []struct {
		name  string
		m     api.Method
		heads string
		self  bool
	}{
		{"the document's", bobMinor(), "132546 214365 241635 315264 351624 426153 462513 536142 563412 645231 654321", false},
		{"one change", methodOf(2, nil), "", false},
		{"one change, by which none moves", methodOf(2, []int{1, 2}), "", false},
		{"rounds twice", methodOf(2, []int{1, 2}, nil), "", true},
		{"rounds three times", methodOf(3, stay, stay, front), "", true},
		{"twice by the lead's last row alone", methodOf(2, nil, nil), "21", false},
		{"the last row like the one ahead", methodOf(2, nil, []int{1, 2}), "21", false},
		{"two rows", methodOf(3, front, back), "213", false},
		{"three rows: what undoes a head is one too", methodOf(3, front, back, front), "213 231 312 321", false},
		{"all but one", methodOf(3, front, back, front, back), "132 213 231 312 321", false},
		{"all six rows", methodOf(3, front, back, front, back, front, back), "132 213 231 312 321", false},
		{"a row twice, not rounds", methodOf(3, front, stay, back), "213", true},
		{"the last row but one like the first", methodOf(3, back, back, front), "132", true},
		{"rows twice, far apart", methodOf(3, front, back, back, front), "213 231 312 321", true},
	} {
		if heads, self, e := truth.False(c.m); e != api.OK || self != c.self || !same(heads, rowsOf(c.heads)) {
			t.Errorf("%s: False = %v, %t, %d, want %s, %t", c.name, heads, self, e, c.heads, c.self)
		}
	}
}

// All rows that there are are asked for.
func TestFalseOfMany(t *testing.T) {
	next := drawn(41)
	selves := 0
	for bells := 2; bells <= 6; bells++ {
		all := allRows(bells)
		for range 60 {
			m := methodOf(bells, drawnChanges(next, bells, 1+next(9))...)
			lead := leadOf(m)
			var want [][]int
			for _, h := range all {
				if falseHead(lead, h) {
					want = append(want, h)
				}
			}
			twice := !allUnlike(lead)
			if twice {
				selves++
			}
			if heads, self, e := truth.False(m); e != api.OK || self != twice || !same(heads, want) {
				t.Errorf("False(%v) = %v, %t, %d, want %v, %t", m, heads, self, e, want, twice)
			}
		}
	}
	if selves < 50 || selves > 250 {
		t.Errorf("too few of a kind: %d", selves)
	}
}

func TestFalseOfTheGreatest(t *testing.T) {
	next := drawn(43)
	m := methodOf(12, drawnLead(next, 12, api.MaxChanges)...)
	lead := leadOf(m)
	heads, self, e := truth.False(m)
	if e != api.OK || self {
		t.Fatalf("False = %d heads, %t, %d", len(heads), self, e)
	}
	var want [][]int
	for _, one := range lead {
		back := make([]int, 12)
		for place, bell := range one {
			back[bell] = place
		}
		for _, other := range lead {
			if !slices.Equal(one, other) {
				want = append(want, changed(other, back))
			}
		}
	}
	slices.SortFunc(want, slices.Compare)
	if want = slices.CompactFunc(want, slices.Equal[[]int]); !same(heads, want) {
		t.Errorf("False has %d heads, want %d", len(heads), len(want))
	}
	for i := 0; i < len(heads); i += 997 {
		if !falseHead(lead, heads[i]) {
			t.Errorf("%v is no false head", heads[i])
		}
	}
}

// T3.

func TestByHeads(t *testing.T) {
	stay := []int{1, 2, 3}
	front, back := []int{3}, []int{1}
	three := methodOf(3, front, back)
	other := []api.Call{{Sign: 'p'}, {Sign: 'n', Changes: [][]int{}}, {Sign: 'b', Changes: [][]int{front}}, {Sign: 's', Changes: [][]int{stay}}, {Sign: 'w', Changes: [][]int{back, back}}}
	for _, c := range []struct {
		name string
		x    touch
		want bool
	}{
		{"the document's", bobbed("3(ppb)"), false},
		{"true, and it comes round", bobbed("5p"), true},
		{"true, and it doesn't", bobbed("2pb"), true},
		{"one lead", bobbed("s"), true},
		{"one row besides rounds", once(2, nil), true},
		{"one that is rounds", once(2, []int{1, 2}), true},

		{"a row twice in a lead, alone", once(3, front, stay, back), false},
		{"rounds twice in a lead, without a false head", once(2, []int{1, 2}, nil), false},
		{"a row twice by the lead's last row", once(3, front, front), true},
		{"two heads alike, alone", touch{methodOf(2, nil), plain(), of(3, 0)}, false},
		{"two alike, one behind the other", touch{methodOf(2, []int{1, 2}), plain(), of(2, 0)}, false},
		{"the last row like the first head", touch{methodOf(2, nil), plain(), of(2, 0)}, true},
		{"two that meet, alone", touch{methodOf(2, nil, []int{1, 2}), plain(), of(2, 0)}, false},
		{"the last row would meet", touch{methodOf(2, nil, []int{1, 2}), plain(), of(1, 0)}, true},
		{"three that don't meet", touch{three, other, of(3, 0)}, true},

		{"calls of no change", touch{three, other, []int{0, 1, 0}}, true},
		{"calls of one change", touch{three, other, []int{0, 3}}, true},
		{"calls of one change, and false", touch{three, other, []int{2, 0}}, false},
		{"a lead of one change, all of it a call", touch{methodOf(3, front), []api.Call{{Sign: 'b', Changes: [][]int{back}}}, of(2, 0)}, true},
		{"a call of two that no lead has", touch{three, other, []int{0, 1, 1}}, true},
	} {
		if want := proven(rung(c.x)).True; want != c.want {
			t.Fatalf("%s: the test itself is wrong: %t", c.name, want)
		}
		if got, e := truth.ByHeads(c.x.m, c.x.calls, c.x.leads); e != api.OK || got != c.want {
			t.Errorf("%s: ByHeads = %t, %d, want %t", c.name, got, e, c.want)
		}
	}
}

func TestByHeadsRefusesLongCalls(t *testing.T) {
	three := methodOf(3, []int{3}, []int{1}, []int{3})
	self := methodOf(3, []int{1, 2, 3}, []int{1, 2, 3}, []int{3})
	calls := []api.Call{{Sign: 'p'}, {Sign: 'b', Changes: [][]int{{3}}}, {Sign: 'w', Changes: [][]int{{3}, {3}}}, {Sign: 'a', Changes: [][]int{{3}, {1}, {3}}}}
	for _, m := range []api.Method{three, self} {
		for _, leads := range [][]int{{2}, {3}, {2, 0}, {0, 2}, {0, 0, 3}, {1, 3, 1}, {2, 3}, {0, 1, 0, 1, 2, 1, 0}} {
			if got, e := truth.ByHeads(m, calls, leads); e != api.ErrState || got {
				t.Errorf("ByHeads(%v, %v) = %t, %d, want ErrState", m.Changes, leads, got, e)
			}
			if _, e := truth.Prove(m, calls, leads); e != api.OK {
				t.Errorf("Prove(%v, %v) = %d", m.Changes, leads, e)
			}
			if heads, e := truth.Heads(m, calls, leads); e != api.OK || len(heads) != len(leads) {
				t.Errorf("Heads(%v, %v) = %v, %d", m.Changes, leads, heads, e)
			}
		}
		for _, leads := range [][]int{{0}, {1}, {0, 1, 1, 0}} {
			if _, e := truth.ByHeads(m, calls, leads); e != api.OK {
				t.Errorf("ByHeads(%v, %v) = %d", m.Changes, leads, e)
			}
		}
	}
}

// why is what ByHeads finds against a touch: a row twice in a lead, heads alike, heads that meet.
func why(x touch) (self, alike, meeting bool) {
	return !allUnlike(leadOf(x.m)), !allUnlike(headsOf(x)), len(meetings(x)) > 0
}

func headsOf(x touch) [][]int {
	rows := rung(x)
	var heads [][]int
	for i := range x.leads {
		heads = append(heads, rows[i*len(x.m.Changes)])
	}
	return heads
}

// meetings are the leads that have a row of another one, though they don't begin alike.
func meetings(x touch) [][2]int {
	rows, n := rung(x), len(x.m.Changes)
	var pairs [][2]int
	for j := range x.leads {
		for i := range j {
			one, other := rows[i*n:i*n+n], rows[j*n:j*n+n]
			if !slices.Equal(one[0], other[0]) && slices.ContainsFunc(one, func(r []int) bool { return among(other, r) }) {
				pairs = append(pairs, [2]int{i, j})
			}
		}
	}
	return pairs
}

func TestByHeadsSaysWhatProveSays(t *testing.T) {
	next := drawn(47)
	kinds := map[[3]bool]int{}
	for range 4000 {
		x := drawnTouch(next, 2+next(7), 9, 9, 1)
		self, alike, meeting := why(x)
		kinds[[3]bool{self, alike, meeting}]++
		report, e := truth.Prove(x.m, x.calls, x.leads)
		got, f := truth.ByHeads(x.m, x.calls, x.leads)
		if e != api.OK || f != api.OK || got != report.True || got != (!self && !alike && !meeting) {
			t.Errorf("ByHeads(%v) = %t, %d; Prove = %+v, %d", x, got, f, report, e)
		}
	}
	for _, kind := range [][3]bool{{}, {true, false, false}, {false, true, false}, {false, false, true}} {
		if kinds[kind] < 20 {
			t.Errorf("too few of the kind %v: %v", kind, kinds)
		}
	}
}

// Just two of the heads meet: wherever they stand, and by whatever row.
func TestByHeadsFindsTheOnlyTwoThatMeet(t *testing.T) {
	next := drawn(53)
	found := map[[2]int]int{}
	for range 3000 {
		x := drawnTouch(next, 5+next(3), 1, 4, 1)
		x.m.Changes = drawnLead(next, x.m.Bells, 2+next(7))
		pairs := meetings(x)
		if len(x.leads) != 4 || len(pairs) != 1 {
			continue
		}
		found[pairs[0]]++
		if got, e := truth.ByHeads(x.m, x.calls, x.leads); e != api.OK || got {
			t.Errorf("leads %v meet: ByHeads(%v) = %t, %d", pairs, x, got, e)
		}
	}
	for _, pair := range [][2]int{{0, 1}, {0, 2}, {0, 3}, {1, 2}, {1, 3}, {2, 3}} {
		if found[pair] == 0 {
			t.Errorf("leads %v never meet alone: %v", pair, found)
		}
	}
}

func TestByHeadsOfTouchesOfMaxRows(t *testing.T) {
	for _, x := range longest(t) {
		half := len(x.leads) / 2
		for name, leads := range map[string][]int{
			"true":                  x.leads,
			"true, from its middle": x.leads[half:],
			"a half, twice":         slices.Repeat(x.leads[:half], 2),
			"one call":              of(len(x.leads), 3),
			"its calls turned over": reversed(x.leads),
		} {
			report, e := truth.Prove(x.m, x.calls, leads)
			got, f := truth.ByHeads(x.m, x.calls, leads)
			if e != api.OK || f != api.OK || report.Changes != len(leads)*len(x.m.Changes) || got != report.True || name == "true" && !got || name == "one call" && got {
				t.Errorf("%s: ByHeads = %t, %d; Prove = %+v, %d", name, got, f, report, e)
			}
		}
	}
}

func reversed(l []int) []int {
	l = slices.Clone(l)
	slices.Reverse(l)
	return l
}

// False is about what Lead tells.
func TestFalseGoesByLead(t *testing.T) {
	rows, _ := method.Lead(bobMinor())
	heads, _, _ := truth.False(bobMinor())
	for _, r := range rows[1 : len(rows)-1] {
		if !among(heads, r) {
			t.Errorf("%v is no false head", r)
		}
	}
}
