package call_test

import (
	"math"
	"reflect"
	"slices"
	"strings"
	"testing"

	"campanile/api"
	"campanile/call"
)

func same(a, b [][]int) bool { return slices.EqualFunc(a, b, slices.Equal[[]int]) }

// of is so many times a number.
func of(times, number int) []int { return slices.Repeat([]int{number}, times) }

// rowOf is a row, told by digits.
func rowOf(s string) []int {
	var r []int
	for _, digit := range s {
		r = append(r, int(digit-'1'))
	}
	return r
}

func bobMinor() api.Method {
	x, m := []int{}, []int{1, 6}
	return api.Method{Name: "Plain Bob Minor", Bells: 6, Changes: [][]int{x, m, x, m, x, m, x, m, x, m, x, {1, 2}}}
}

// usual calls: a lead without one, a bob, a single.
func usual() []api.Call {
	return []api.Call{{Sign: 'p'}, {Sign: 'b', Changes: [][]int{{1, 4}}}, {Sign: 's', Changes: [][]int{{1, 2, 3, 4}}}}
}

// signed are calls without changes, of these signs.
func signed(signs ...rune) []api.Call {
	var calls []api.Call
	for _, sign := range signs {
		calls = append(calls, api.Call{Sign: sign})
	}
	return calls
}

// long is a method of so many changes, all of them the same.
func long(changes int) api.Method {
	return api.Method{Name: "Long", Bells: 4, Changes: slices.Repeat([][]int{{1, 4}}, changes)}
}

// drawn numbers, the same each time.
func drawn(number uint64) func(most int) int {
	return func(most int) int {
		number = number*6364136223846793005 + 1442695040888963407
		return int(number >> 33 % uint64(most))
	}
}

func drawnChanges(next func(int) int, bells, many int) [][]int {
	var changes [][]int
	for range many {
		places := []int{}
		for p := 1; p <= bells; p++ {
			if p == bells || next(3) == 0 {
				places = append(places, p)
			} else {
				p++
			}
		}
		changes = append(changes, places)
	}
	return changes
}

// A1.

func TestSign(t *testing.T) {
	for r, want := range map[rune]bool{
		0: false, '\n': false, ' ': false, '!': true, '\'': true, '(': false, ')': false, '*': true, '/': true, '0': false, '1': false, '5': false, '8': false, '9': false, ':': true,
		'p': true, 'é': true, '-': true, '~': true, 0x7f: false, 0x80: false, 0x9f: false, 0xa0: false, 0xa1: true,
		0x2000: true, 0x2ffe: true, 0x2fff: true, 0x3000: false, 0x3001: false, 0xd800: false, 0xdfff: false, 0xfffd: false, 0xffff: false,
		0x10ffff: false, 0x110000: false, -1: false, -'p': false, math.MinInt32: false, math.MaxInt32: false, 1<<16 + 'p': false, 1<<24 + 'p': false,
	} {
		if got := call.Sign(r); got != want {
			t.Errorf("Sign(%#x) = %t", r, got)
		}
	}
}

func TestSignOfEachRune(t *testing.T) {
	// Where it turns from one answer to the other.
	turns := []rune{'!', '(', '*', '0', ':', 0x7f, 0xa1, 0x3000}
	want := false
	for r := rune(-10); r < 0x12000; r++ {
		if slices.Contains(turns, r) {
			want = !want
		}
		if got := call.Sign(r); got != want {
			t.Errorf("Sign(%#x) = %t", r, got)
		}
	}
}

func TestCheck(t *testing.T) {
	wide := []int{1, 2, 3, 4, 5, 6, 7, 8, 9, 10, 11, 12}
	for _, c := range []struct {
		name  string
		m     api.Method
		calls []api.Call
	}{
		{"the usual ones", bobMinor(), usual()},
		{"one call", bobMinor(), signed('p')},
		{"one with an empty list", bobMinor(), []api.Call{{Sign: 'p', Changes: [][]int{}}}},
		{"MaxCalls calls", bobMinor(), signed('a', 'b', 'c', 'd', 'e', 'f', 'g', 'h')},
		{"signs at the ends of what may be", bobMinor(), signed('!', '\'', '*', '/', ':', '~', 0xa1, 0x2fff)},
		{"large and small letters", bobMinor(), signed('b', 'B')},
		{"no call without changes", bobMinor(), usual()[1:]},
		{"the same changes", bobMinor(), []api.Call{{Sign: 'a', Changes: [][]int{{}}}, {Sign: 'b', Changes: [][]int{{}}}}},
		{"as many changes as the method", long(3), []api.Call{{Sign: 'b', Changes: slices.Repeat([][]int{nil}, 3)}}},
		{"one of one", long(1), []api.Call{{Sign: 'b', Changes: [][]int{{1, 2}}}}},
		{"MaxChanges of them", long(api.MaxChanges), []api.Call{{Sign: 'b', Changes: slices.Repeat([][]int{{3, 4}}, api.MaxChanges)}}},
		{"two bells", api.Method{Name: "a", Bells: 2, Changes: [][]int{{}}}, []api.Call{{Sign: 'b', Changes: [][]int{{1, 2}}}}},
		{"MaxBells", api.Method{Name: "a", Bells: 12, Changes: [][]int{{}}}, []api.Call{{Sign: 'b', Changes: [][]int{wide}}}},
	} {
		if e := call.Check(c.m, c.calls); e != api.OK {
			t.Errorf("%s: Check = %d", c.name, e)
		}
	}
}

type wrongCalls struct {
	why   string
	m     api.Method
	calls []api.Call
	e     api.Errno
}

func wrongMethods() []wrongCalls {
	named := func(name string, bells int, changes ...[]int) api.Method {
		return api.Method{Name: name, Bells: bells, Changes: changes}
	}
	return []wrongCalls{
		{"no method", api.Method{}, usual(), api.ErrName},
		{"no method, no calls", api.Method{}, nil, api.ErrName},
		{"a wrong name", named(" a", 6, []int{}), usual(), api.ErrName},
		{"a wrong name, wrong signs", named("", 6, []int{}), signed(' '), api.ErrName},
		{"one bell", named("a", 1, []int{1}), signed('p'), api.ErrCount},
		{"one bell too many, wrong signs", named("a", 13, []int{1}), signed('(', '('), api.ErrCount},
		{"far too many", named("a", math.MaxInt, []int{1}), signed('p'), api.ErrCount},
		{"no changes, wrong signs", named("a", 6), signed('1'), api.ErrCount},
		{"one change too many", long(api.MaxChanges + 1), signed('p'), api.ErrCount},
		{"wrong places", named("a", 6, []int{}, []int{2}), usual(), api.ErrPlace},
		{"wrong places, no calls", named("a", 6, []int{2}), nil, api.ErrPlace},
		{"wrong places, too many calls", named("a", 5, []int{}), signed('a', 'b', 'c', 'd', 'e', 'f', 'g', 'h', 'i'), api.ErrPlace},
		{"wrong places, two calls of one sign", named("a", 5, []int{}), signed('a', 'a'), api.ErrPlace},
	}
}

func wrongLists() []wrongCalls {
	m := bobMinor()
	cross, bad := [][]int{{}}, [][]int{{2}}
	right := api.Call{Sign: 'r', Changes: cross}
	twice := api.Call{Sign: 'r', Changes: slices.Repeat(bad, 13)}
	nameless := api.Call{Sign: ' ', Changes: slices.Repeat(bad, 13)}
	longer := api.Call{Sign: 'l', Changes: slices.Repeat(cross, 13)}
	wrong := api.Call{Sign: 'w', Changes: bad}
	return []wrongCalls{
		{"no calls", m, nil, api.ErrCount},
		{"an empty list", m, []api.Call{}, api.ErrCount},
		{"one call too many", m, signed('a', 'b', 'c', 'd', 'e', 'f', 'g', 'h', 'i'), api.ErrCount},
		{"too many, and none may be", m, slices.Repeat([]api.Call{nameless}, api.MaxCalls+1), api.ErrCount},
		{"far too many", m, signed(make([]rune, 100000)...), api.ErrCount},
		{"no sign", m, []api.Call{{}}, api.ErrWord},
		{"a blank", m, signed(' '), api.ErrWord},
		{"a bracket", m, signed('p', '('), api.ErrWord},
		{"the other bracket", m, signed(')', 'p'), api.ErrWord},
		{"a digit", m, signed('0'), api.ErrWord},
		{"another digit", m, signed('p', '9'), api.ErrWord},
		{"behind a sign's end", m, signed(0x7f), api.ErrWord},
		{"ahead of a sign's beginning", m, signed(0xa0), api.ErrWord},
		{"one above", m, signed(0x3000), api.ErrWord},
		{"below nothing", m, signed(-1), api.ErrWord},
		{"two of one wrong sign", m, signed(' ', ' '), api.ErrWord},
		{"two of one sign", m, signed('p', 'p'), api.ErrDouble},
		{"the first and the last of one sign", m, signed('a', 'b', 'c', 'd', 'e', 'f', 'g', 'a'), api.ErrDouble},
		{"two of one sign, with other changes", m, []api.Call{right, {Sign: 'r'}}, api.ErrDouble},
		{"one change more than the method", m, []api.Call{longer}, api.ErrCount},
		{"two of one", long(1), []api.Call{{Sign: 'b', Changes: [][]int{{}, {}}}}, api.ErrCount},
		{"one more than MaxChanges", long(api.MaxChanges), []api.Call{{Sign: 'b', Changes: slices.Repeat(cross, api.MaxChanges+1)}}, api.ErrCount},
		{"wrong places", m, []api.Call{wrong}, api.ErrPlace},
		{"wrong places of the last change", m, []api.Call{{Sign: 'b', Changes: append(slices.Repeat(cross, 11), []int{6, 1})}}, api.ErrPlace},
		{"wrong places of the last call", m, append(usual(), wrong), api.ErrPlace},
		{"a place that isn't there", m, []api.Call{{Sign: 'b', Changes: [][]int{{1, 8}}}}, api.ErrPlace},
		{"a cross of five", api.Method{Name: "a", Bells: 5, Changes: [][]int{{1}}}, []api.Call{right}, api.ErrPlace},

		{"no sign, too many changes, wrong places", m, []api.Call{nameless}, api.ErrWord},
		{"twice, too many changes, wrong places", m, []api.Call{right, twice}, api.ErrDouble},
		{"too many changes, wrong places", m, []api.Call{{Sign: 'l', Changes: slices.Repeat(bad, 13)}}, api.ErrCount},
		{"no sign, then wrong places", m, []api.Call{nameless, wrong}, api.ErrWord},
		{"wrong places, then no sign", m, []api.Call{wrong, nameless}, api.ErrPlace},
		{"wrong places, then the same sign", m, []api.Call{wrong, wrong}, api.ErrPlace},
		{"too many changes, then no sign", m, []api.Call{longer, nameless}, api.ErrCount},
		{"too many changes, then the same sign", m, []api.Call{longer, longer}, api.ErrCount},
		{"the same sign, then no sign", m, []api.Call{right, twice, nameless}, api.ErrDouble},
		{"the same sign, then too many changes", m, []api.Call{right, right, longer}, api.ErrDouble},
	}
}

// May and Rows say first what Check says, whatever the leads, and nothing beside it.
func TestCallsSayWhatCheckSays(t *testing.T) {
	for _, w := range slices.Concat(wrongMethods(), wrongLists()) {
		if e := call.Check(w.m, w.calls); e != w.e {
			t.Errorf("%s: Check = %d, want %d", w.why, e, w.e)
		}
		for _, leads := range [][]int{{0}, nil, {-1}, of(api.MaxLeads, 0), of(api.MaxLeads+1, 99)} {
			if e := call.May(w.m, w.calls, leads); e != w.e {
				t.Errorf("%s: May = %d, want %d", w.why, e, w.e)
			}
			if rows, e := call.Rows(w.m, w.calls, leads); e != w.e || len(rows) != 0 {
				t.Errorf("%s: Rows = %v, %d, want %d", w.why, rows, e, w.e)
			}
		}
	}
}

// A3.

func TestPrint(t *testing.T) {
	for _, c := range []struct {
		name  string
		calls []api.Call
		leads []int
		text  string
	}{
		{"one lead", usual(), []int{0}, "p"},
		{"the last call", usual(), []int{2}, "s"},
		{"two of a kind", usual(), []int{1, 1}, "2b"},
		{"all unlike", usual(), []int{0, 1, 2, 0}, "pbsp"},
		{"runs", usual(), []int{0, 0, 1, 0, 0, 1, 0, 0, 1}, "2pb2pb2pb"},
		{"runs at both ends", usual(), []int{2, 2, 2, 0, 1, 1}, "3sp2b"},
		{"ten", usual(), of(10, 0), "10p"},
		{"one less than MaxTimes", usual(), of(98, 0), "98p"},
		{"MaxTimes", usual(), of(99, 0), "99p"},
		{"one more", usual(), of(100, 0), "99pp"},
		{"two more", usual(), of(101, 0), "99p2p"},
		{"twice MaxTimes", usual(), of(198, 1), "99b99b"},
		{"one more than that", usual(), of(199, 1), "99b99bb"},
		{"MaxTimes of each", usual(), slices.Concat(of(99, 0), of(99, 1)), "99p99b"},
		{"one more of the first", usual(), slices.Concat(of(100, 0), of(99, 1)), "99pp99b"},
		{"MaxLeads of one", usual(), of(400, 2), "99s99s99s99s4s"},
		{"MaxLeads, all unlike the next", usual(), slices.Repeat([]int{0, 1}, 200), strings.Repeat("pb", 200)},
		{"signs of two and three bytes", signed('é', '✓'), []int{0, 0, 1, 0, 1, 1}, "2é✓é2✓"},
		{"two calls of one sign are two runs", signed('p', 'p'), []int{0, 0, 1, 1, 1, 0}, "2p3pp"},
		{"signs that may not be", signed('1', '(', ' '), []int{0, 0, 1, 2}, "21( "},
		{"more than MaxCalls", signed('a', 'b', 'c', 'd', 'e', 'f', 'g', 'h', 'i', 'j'), []int{9, 8, 8}, "j2i"},
		{"wrong changes are not asked for", []api.Call{{Sign: 'b', Changes: [][]int{{2}}}}, []int{0}, "b"},
	} {
		if s, e := call.Print(c.calls, c.leads); e != api.OK || s != c.text {
			t.Errorf("%s: Print = %q, %d, want %q", c.name, s, e, c.text)
		}
	}
}

// What Print and May alike refuse in the leads.
func wrongLeads() map[string]struct {
	leads []int
	e     api.Errno
} {
	type wrong = struct {
		leads []int
		e     api.Errno
	}
	return map[string]wrong{
		"no leads":                     {nil, api.ErrCount},
		"an empty list":                {[]int{}, api.ErrCount},
		"one more than MaxLeads":       {of(api.MaxLeads+1, 0), api.ErrCount},
		"far too many":                 {of(100000, 1), api.ErrCount},
		"too many, none a call's":      {of(api.MaxLeads+1, -1), api.ErrCount},
		"below 0":                      {[]int{-1}, api.ErrValue},
		"as many as there are":         {[]int{3}, api.ErrValue},
		"the last one wrong":           {append(of(api.MaxLeads-1, 2), 3), api.ErrValue},
		"the first one wrong":          {[]int{-1, 0, 1}, api.ErrValue},
		"the least number":             {[]int{0, math.MinInt}, api.ErrValue},
		"the greatest number":          {[]int{math.MaxInt, 0}, api.ErrValue},
		"MaxLeads of a number too far": {of(api.MaxLeads, 3), api.ErrValue},
	}
}

func TestPrintRefuses(t *testing.T) {
	for why, w := range wrongLeads() {
		if s, e := call.Print(usual(), w.leads); e != w.e || s != "" {
			t.Errorf("%s: Print = %q, %d, want %d", why, s, e, w.e)
		}
	}
	for _, calls := range [][]api.Call{nil, {}} {
		if s, e := call.Print(calls, []int{0}); e != api.ErrValue || s != "" {
			t.Errorf("without calls: Print = %q, %d, want ErrValue", s, e)
		}
		if s, e := call.Print(calls, nil); e != api.ErrCount || s != "" {
			t.Errorf("without calls and leads: Print = %q, %d, want ErrCount", s, e)
		}
	}
}

func TestThereAndBack(t *testing.T) {
	next := drawn(7)
	many := [][]api.Call{usual(), signed('p'), signed('!', '\'', '*', '/', ':', '~', 0xa1, 0x2fff), signed('é', 'è', 'e', '€')}
	for range 3000 {
		calls := many[next(len(many))]
		var leads []int
		for room := 1 + next(api.MaxLeads); len(leads) < room; {
			leads = append(leads, of(min(1+next(1+next(130)), room-len(leads)), next(len(calls)))...)
		}
		s, e := call.Print(calls, leads)
		if e != api.OK || len(s) > api.MaxText {
			t.Fatalf("Print(%v) = %q, %d", leads, s, e)
		}
		if back, e := call.Parse(calls, s); e != api.OK || !slices.Equal(back, leads) {
			t.Errorf("Parse(%q) = %v, %d, want %v", s, back, e, leads)
		}
	}
}

// A4.

func TestMayAndRowsRefuseLeads(t *testing.T) {
	for why, w := range wrongLeads() {
		for _, m := range []api.Method{bobMinor(), long(api.MaxChanges)} {
			if e := call.May(m, usualOf(m), w.leads); e != w.e {
				t.Errorf("%s: May = %d, want %d", why, e, w.e)
			}
			if rows, e := call.Rows(m, usualOf(m), w.leads); e != w.e || len(rows) != 0 {
				t.Errorf("%s: Rows = %d rows, %d, want %d", why, len(rows), e, w.e)
			}
		}
	}
}

// usualOf are three calls that fit a method.
func usualOf(m api.Method) []api.Call {
	return []api.Call{{Sign: 'p'}, {Sign: 'b', Changes: m.Changes[:1]}, {Sign: 's', Changes: m.Changes}}
}

func TestMayOfManyRows(t *testing.T) {
	for _, c := range []struct {
		name           string
		changes, leads int
		e              api.Errno
	}{
		{"one row", 1, 1, api.OK},
		{"MaxLeads of one change", 1, 400, api.OK},
		{"MaxLeads, MaxRows", 50, 400, api.OK},
		{"MaxChanges, MaxRows", 200, 100, api.OK},
		{"MaxRows of other numbers", 160, 125, api.OK},
		{"just below", 199, 100, api.OK},
		{"MaxLeads, a change more", 51, 400, api.ErrLimit},
		{"MaxChanges, a lead more", 200, 101, api.ErrLimit},
		{"one row more", 177, 113, api.ErrLimit},
		{"MaxChanges and MaxLeads", 200, 400, api.ErrLimit},
	} {
		m := long(c.changes)
		for number, one := range usualOf(m) {
			leads := of(c.leads, number)
			if e := call.May(m, usualOf(m), leads); e != c.e {
				t.Errorf("%s, call %c: May = %d, want %d", c.name, one.Sign, e, c.e)
			}
			rows, e := call.Rows(m, usualOf(m), leads)
			if e != c.e || e != api.OK && len(rows) != 0 || e == api.OK && len(rows) != c.leads*c.changes+1 {
				t.Errorf("%s, call %c: Rows = %d rows, %d, want %d", c.name, one.Sign, len(rows), e, c.e)
			}
		}
	}
}

func TestRowsOfATouch(t *testing.T) {
	leads, _ := call.Parse(usual(), "3(ppb)")
	if e := call.May(bobMinor(), usual(), leads); e != api.OK {
		t.Errorf("May = %d", e)
	}
	rows, e := call.Rows(bobMinor(), usual(), leads)
	if e != api.OK || len(rows) != 109 {
		t.Fatalf("Rows = %d rows, %d", len(rows), e)
	}
	first := strings.Fields("123456 214365 241635 426153 462513 645231 654321 563412 536142 351624 315264 132546 135264 312546")
	for i, text := range first {
		if !slices.Equal(rows[i], rowOf(text)) {
			t.Errorf("row %d is %v, want %s", i, rows[i], text)
		}
	}
	heads := strings.Fields("123456 135264 156342 156423 162534 123645 123456 135264 156342 156423")
	for i, text := range heads {
		if !slices.Equal(rows[12*i], rowOf(text)) {
			t.Errorf("head %d is %v, want %s", i, rows[12*i], text)
		}
	}
}

func TestRowsOfShortTouches(t *testing.T) {
	two := api.Method{Name: "Two", Bells: 2, Changes: [][]int{{}}}
	four := api.Method{Name: "Four", Bells: 4, Changes: [][]int{{}, {1, 4}, {}}}
	for _, c := range []struct {
		name  string
		m     api.Method
		calls []api.Call
		leads []int
		rows  string
	}{
		{"one change", two, signed('p'), []int{0}, "12 21"},
		{"all of it a call", two, []api.Call{{Sign: 'b', Changes: [][]int{{1, 2}}}}, []int{0, 0}, "12 12 12"},
		{"one of each", two, []api.Call{{Sign: 'p'}, {Sign: 'b', Changes: [][]int{{1, 2}}}}, []int{1, 0, 0, 1}, "12 12 21 12 12"},
		{"a lead without a call", four, signed('p'), []int{0}, "1234 2143 2413 4231"},
		{"one change instead", four, []api.Call{{Sign: 'b', Changes: [][]int{{1, 2}}}}, []int{0}, "1234 2143 2413 2431"},
		{"two instead, in their order", four, []api.Call{{Sign: 'b', Changes: [][]int{{3, 4}, {1, 2}}}}, []int{0}, "1234 2143 1243 1234"},
		{"all instead", four, []api.Call{{Sign: 'b', Changes: [][]int{{1, 4}, {1, 2}, {3, 4}}}}, []int{0}, "1234 1324 1342 3142"},
		{"the second call, then the first", four, []api.Call{{Sign: 'p'}, {Sign: 'b', Changes: [][]int{{1, 2}}}}, []int{1, 0}, "1234 2143 2413 2431 4213 4123 1432"},
	} {
		var want [][]int
		for _, text := range strings.Fields(c.rows) {
			want = append(want, rowOf(text))
		}
		if rows, e := call.Rows(c.m, c.calls, c.leads); e != api.OK || !same(rows, want) {
			t.Errorf("%s: Rows = %v, %d, want %s", c.name, rows, e, c.rows)
		}
	}
}

// rung are a touch's rows, bell by bell, without the package's help.
func rung(m api.Method, calls []api.Call, leads []int) [][]int {
	r := make([]int, m.Bells)
	for i := range r {
		r[i] = i
	}
	rows := [][]int{slices.Clone(r)}
	for _, c := range leads {
		for k := range m.Changes {
			places := m.Changes[k]
			if left := len(m.Changes) - k; left <= len(calls[c].Changes) {
				places = calls[c].Changes[len(calls[c].Changes)-left]
			}
			for i := 0; i < m.Bells; i++ {
				if !slices.Contains(places, i+1) {
					r[i], r[i+1] = r[i+1], r[i]
					i++
				}
			}
			rows = append(rows, slices.Clone(r))
		}
	}
	return rows
}

// touch: a method, calls and leads that may be.
type touch struct {
	m     api.Method
	calls []api.Call
	leads []int
}

func drawnTouches() []touch {
	next := drawn(11)
	var l []touch
	for bells := 2; bells <= api.MaxBells; bells++ {
		for range 30 {
			m := api.Method{Name: "Drawn", Bells: bells, Changes: drawnChanges(next, bells, 1+next(30))}
			var calls []api.Call
			for i := range 1 + next(api.MaxCalls) {
				calls = append(calls, api.Call{Sign: rune('a' + i), Changes: drawnChanges(next, bells, next(len(m.Changes)+1))})
			}
			var leads []int
			for range 1 + next(40) {
				leads = append(leads, next(len(calls)))
			}
			l = append(l, touch{m, calls, leads})
		}
	}
	return l
}

func TestRowsOfMany(t *testing.T) {
	for _, x := range drawnTouches() {
		if e := call.May(x.m, x.calls, x.leads); e != api.OK {
			t.Errorf("May(%v) = %d", x, e)
		}
		if rows, e := call.Rows(x.m, x.calls, x.leads); e != api.OK || !same(rows, rung(x.m, x.calls, x.leads)) {
			t.Errorf("Rows(%v) = %v, %d", x, rows, e)
		}
	}
}

// X1, X2.

func copiedChanges(changes [][]int) [][]int {
	var l [][]int
	for _, places := range changes {
		l = append(l, slices.Clone(places))
	}
	return l
}

func copied(x touch) touch {
	x.m.Changes = copiedChanges(x.m.Changes)
	x.calls = slices.Clone(x.calls)
	for i, c := range x.calls {
		x.calls[i].Changes = copiedChanges(c.Changes)
	}
	x.leads = slices.Clone(x.leads)
	return x
}

func roomyChanges(changes [][]int) [][]int {
	var l [][]int
	for _, places := range changes {
		l = append(l, append(slices.Clone(places), 77, 78)[:len(places)])
	}
	return append(l, []int{79})[:len(changes)]
}

// roomy: all its lists have more behind them in memory.
func roomy(x touch) touch {
	x = copied(x)
	x.m.Changes = roomyChanges(x.m.Changes)
	for i, c := range x.calls {
		x.calls[i].Changes = roomyChanges(c.Changes)
	}
	x.calls = append(x.calls, api.Call{Sign: 'R', Changes: [][]int{{76}}})[:len(x.calls)]
	x.leads = append(x.leads, 75, 74)[:len(x.leads)]
	return x
}

func sameChanges(given, changes [][]int) bool {
	for _, places := range given {
		if !slices.Equal(places[len(places):len(places)+2], []int{77, 78}) {
			return false
		}
	}
	return same(given, changes) && slices.Equal(given[:len(changes)+1][len(changes)], []int{79})
}

// untouched: has a roomy one still what it had, and behind its lists too?
func untouched(given, x touch) bool {
	if given.m.Name != x.m.Name || given.m.Bells != x.m.Bells || !sameChanges(given.m.Changes, x.m.Changes) || len(given.calls) != len(x.calls) {
		return false
	}
	for i, c := range given.calls {
		if c.Sign != x.calls[i].Sign || !sameChanges(c.Changes, x.calls[i].Changes) {
			return false
		}
	}
	behind := given.calls[:len(x.calls)+1][len(x.calls)]
	return behind.Sign == 'R' && same(behind.Changes, [][]int{{76}}) && slices.Equal(given.leads, x.leads) && slices.Equal(given.leads[len(x.leads):len(x.leads)+2], []int{75, 74})
}

func TestListsHandedInStay(t *testing.T) {
	l := append(drawnTouches()[:60:60], touch{bobMinor(), usual(), []int{0, 0, 1}}, touch{bobMinor(), usual(), []int{0, 3}}, touch{bobMinor(), usual(), nil})
	for _, w := range slices.Concat(wrongMethods(), wrongLists()) {
		l = append(l, touch{w.m, w.calls, []int{0}})
	}
	for _, x := range l {
		given := roomy(x)
		call.Check(given.m, given.calls)
		call.May(given.m, given.calls, given.leads)
		call.Rows(given.m, given.calls, given.leads)
		call.Print(given.calls, given.leads)
		for _, text := range []string{"3(2ab)c", "aRa", "R", "(", "2(p)z"} {
			call.Parse(given.calls, text)
		}
		if !untouched(given, x) {
			t.Errorf("%v became %v", x, given)
		}
	}
}

// What stands behind a list in memory is no call.
func TestWhatIsBehindIsNotRead(t *testing.T) {
	calls := signed('p', 'b', 's')[:1]
	if l, e := call.Parse(calls, "b"); e != api.ErrWord || len(l) != 0 {
		t.Errorf("Parse = %v, %d, want ErrWord", l, e)
	}
	if s, e := call.Print(calls, []int{1}); e != api.ErrValue || s != "" {
		t.Errorf("Print = %q, %d, want ErrValue", s, e)
	}
	if s, e := call.Print(calls, []int{0, 0, 0}[:1]); e != api.OK || s != "p" {
		t.Errorf("Print = %q, %d", s, e)
	}
	if e := call.May(bobMinor(), calls, []int{2}); e != api.ErrValue {
		t.Errorf("May = %d, want ErrValue", e)
	}
}

// spoil writes into all of a list's memory, that behind its end too.
func spoil(l []int) {
	l = l[:cap(l)]
	for i := range l {
		l[i] = -5
	}
}

func TestRowsShareNoMemory(t *testing.T) {
	still := api.Method{Name: "Still", Bells: 4, Changes: [][]int{{1, 2, 3, 4}, {1, 2, 3, 4}}}
	for _, x := range []touch{{bobMinor(), usual(), []int{0, 1, 0}}, {still, signed('p'), []int{0, 0}}} {
		want := rung(x.m, x.calls, x.leads)
		for i := range want {
			given := copied(x)
			got, _ := call.Rows(given.m, given.calls, given.leads)
			spoil(got[i])
			got[i] = want[i]
			again, _ := call.Rows(given.m, given.calls, given.leads)
			if !same(got, want) || !same(again, want) || !untouched(roomy(given), x) {
				t.Errorf("%s: row %d shares memory", x.m.Name, i)
			}
		}
	}
}

func TestLeadsAreFresh(t *testing.T) {
	for _, text := range []string{"p", "3p", "2(pb)s", "((p))"} {
		first, _ := call.Parse(usual(), text)
		second, _ := call.Parse(usual(), text)
		want := slices.Clone(second)
		spoil(first)
		third, _ := call.Parse(usual(), text)
		if !slices.Equal(second, want) || !slices.Equal(third, want) {
			t.Errorf("Parse(%q) shares memory: %v, %v", text, second, third)
		}
	}
}

func TestAnswersHangOnArgumentsAlone(t *testing.T) {
	m, calls := bobMinor(), usual()
	first, _ := call.Rows(m, calls, []int{0, 1})
	for range 3 {
		for _, wrong := range []string{"(p", "2", "2(", "z", "((((((((", "99(9p)"} {
			call.Parse(calls, wrong)
		}
		if l, e := call.Parse(calls, "2(pb)"); e != api.OK || !slices.Equal(l, []int{0, 1, 0, 1}) {
			t.Errorf("Parse = %v, %d", l, e)
		}
		other := usual()
		other[1].Changes[0][1] = 6
		call.Rows(m, other, []int{0, 1})
		if again, e := call.Rows(m, calls, []int{0, 1}); e != api.OK || !reflect.DeepEqual(first, again) {
			t.Errorf("Rows hangs on more than its arguments: %d", e)
		}
	}
}
