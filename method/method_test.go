package method_test

import (
	"math"
	"reflect"
	"slices"
	"strings"
	"testing"

	"campanile/api"
	"campanile/method"
)

func same(a, b [][]int) bool { return slices.EqualFunc(a, b, slices.Equal[[]int]) }

func sameMethods(a, b api.Method) bool {
	return a.Name == b.Name && a.Bells == b.Bells && same(a.Changes, b.Changes)
}

func isZero(m api.Method) bool { return m.Name == "" && m.Bells == 0 && m.Changes == nil }

// rowsOf are rows, told by digits.
func rowsOf(texts ...string) [][]int {
	var rows [][]int
	for _, s := range texts {
		var r []int
		for _, digit := range s {
			r = append(r, int(digit-'1'))
		}
		rows = append(rows, r)
	}
	return rows
}

func bobMinor() api.Method {
	x, m := []int{}, []int{1, 6}
	return api.Method{Name: "Plain Bob Minor", Bells: 6, Changes: [][]int{x, m, x, m, x, m, x, m, x, m, x, {1, 2}}}
}

func grandsire() api.Method {
	return api.Method{Name: "Grandsire", Bells: 5, Changes: [][]int{{3}, {1}, {5}, {1}, {5}, {1}, {5}, {1}, {5}, {1}}}
}

// longest has a course as long as it may be: 60 leads of MaxChanges. Its head has cycles of 3, 4 and 5 bells, made by swapping two neighbours a change; then nothing moves.
func longest() api.Method {
	all := []int{1, 2, 3, 4, 5, 6, 7, 8, 9, 10, 11, 12}
	m := api.Method{Name: "Long", Bells: 12}
	for _, first := range []int{1, 2, 4, 5, 6, 8, 9, 10, 11} {
		m.Changes = append(m.Changes, slices.Delete(slices.Clone(all), first-1, first+1))
	}
	for len(m.Changes) < api.MaxChanges {
		m.Changes = append(m.Changes, slices.Clone(all))
	}
	return m
}

// some methods that may be: of each number of bells, with few changes and with many.
func some() []api.Method {
	l := []api.Method{bobMinor(), grandsire(), longest(), {Name: "a", Bells: 2, Changes: [][]int{{1, 2}}}, {Name: "Z 9", Bells: 2, Changes: [][]int{nil}}}
	number := uint64(3)
	next := func(most int) int {
		number = number*6364136223846793005 + 1442695040888963407
		return int(number >> 33 % uint64(most))
	}
	for n := 2; n <= api.MaxBells; n++ {
		for many := 1; many < 40; many += 1 + next(4) {
			m := api.Method{Name: "Drawn Łódź", Bells: n}
			for range many {
				places := []int{}
				for p := 1; p <= n; p++ {
					if p == n || next(3) == 0 {
						places = append(places, p)
					} else {
						p++
					}
				}
				m.Changes = append(m.Changes, places)
			}
			if next(3) == 0 {
				back := slices.Clone(m.Changes)
				slices.Reverse(back)
				m.Changes = append(append(m.Changes, back[1:]...), m.Changes[next(many)])
			}
			l = append(l, m)
		}
	}
	return l
}

// M1.

func TestName(t *testing.T) {
	for s, want := range map[string]bool{
		"Plain Bob Minor": true, "a": true, "7": true, "A B": true, "a  b": true, "Étoile": true, "Łódź 2": true,
		"": false, " ": false, "  ": false, " a": false, "a ": false, "É ": false, " É": false,
		"a|b": false, "a\tb": false, "a\nb": false, "a\x00": false, "a-b": false, "a.b": false, "a\u00a0b": false, "\u00a0": false,
		"a×": false, "÷": false, "a\xff": false, "\xc3": false, "É\xc9": false, "\ufffd": false, "e\u0301": false, "ſ": false, "１": false,
		strings.Repeat("a", api.MaxName): true, strings.Repeat("a", api.MaxName+1): false,
		strings.Repeat("é", api.MaxName): true, strings.Repeat("é", api.MaxName+1): false,
		"a" + strings.Repeat(" ", api.MaxName-2) + "b": true, "a" + strings.Repeat(" ", api.MaxName-1) + "b": false,
		strings.Repeat("a", api.MaxName) + " ": false, strings.Repeat("é", api.MaxName-1) + " ": false,
		strings.Repeat("a", 1<<20): false,
	} {
		if got := method.Name(s); got != want {
			t.Errorf("Name(%.60q) = %t", s, got)
		}
	}
}

func TestNameOfEachRune(t *testing.T) {
	inside := func(r rune) bool {
		return strings.ContainsRune("ABCDEFGHIJKLMNOPQRSTUVWXYZabcdefghijklmnopqrstuvwxyz0123456789", r) || r >= 0xc0 && r <= 0x17e && r != 0xd7 && r != 0xf7
	}
	for r := rune(0); r <= 0x3000; r++ {
		if got := method.Name(string(r)); got != inside(r) {
			t.Errorf("Name of the rune %#x: %t", r, got)
		}
		if got := method.Name("a" + string(r) + "b"); got != (inside(r) || r == ' ') {
			t.Errorf("Name with the rune %#x in it: %t", r, got)
		}
	}
	for b := 0x80; b <= 0xff; b++ {
		if s := "a" + string([]byte{byte(b)}) + "b"; method.Name(s) {
			t.Errorf("Name(%q): a byte is no rune", s)
		}
	}
}

type wrongMethod struct {
	why string
	m   api.Method
	e   api.Errno
}

func wrongMethods() []wrongMethod {
	cross := [][]int{{}}
	return []wrongMethod{
		{"nothing", api.Method{}, api.ErrName},
		{"no name", api.Method{Name: "", Bells: 6, Changes: cross}, api.ErrName},
		{"a blank first", api.Method{Name: " a", Bells: 6, Changes: cross}, api.ErrName},
		{"no name, no bells, no changes", api.Method{Name: "|"}, api.ErrName},
		{"no name, and wrong changes", api.Method{Name: "a ", Bells: 4, Changes: [][]int{{2}}}, api.ErrName},
		{"no bells", api.Method{Name: "a", Changes: cross}, api.ErrCount},
		{"one bell", api.Method{Name: "a", Bells: 1, Changes: [][]int{{1}}}, api.ErrCount},
		{"one bell too many", api.Method{Name: "a", Bells: api.MaxBells + 1, Changes: [][]int{{1}}}, api.ErrCount},
		{"below 0", api.Method{Name: "a", Bells: -6, Changes: cross}, api.ErrCount},
		{"the least number", api.Method{Name: "a", Bells: math.MinInt, Changes: cross}, api.ErrCount},
		{"the greatest number", api.Method{Name: "a", Bells: math.MaxInt, Changes: cross}, api.ErrCount},
		{"no bells, wrong changes", api.Method{Name: "a", Changes: [][]int{{2}}}, api.ErrCount},
		{"no changes", api.Method{Name: "a", Bells: 6}, api.ErrCount},
		{"an empty list", api.Method{Name: "a", Bells: 6, Changes: [][]int{}}, api.ErrCount},
		{"one change too many", api.Method{Name: "a", Bells: 6, Changes: slices.Repeat(cross, api.MaxChanges+1)}, api.ErrCount},
		{"too many, all wrong", api.Method{Name: "a", Bells: 6, Changes: slices.Repeat([][]int{{2}}, api.MaxChanges+1)}, api.ErrCount},
		{"a cross of five", api.Method{Name: "a", Bells: 5, Changes: cross}, api.ErrPlace},
		{"the first one wrong", api.Method{Name: "a", Bells: 4, Changes: [][]int{{2}, {}}}, api.ErrPlace},
		{"the last one wrong", api.Method{Name: "a", Bells: 4, Changes: append(slices.Repeat(cross, api.MaxChanges-1), []int{4, 1})}, api.ErrPlace},
		{"a place too many", api.Method{Name: "a", Bells: 4, Changes: [][]int{{1, 4}, {1, 6}}}, api.ErrPlace},
	}
}

func TestCheck(t *testing.T) {
	many := api.Method{Name: "Many", Bells: api.MaxBells, Changes: slices.Repeat([][]int{nil}, api.MaxChanges)}
	for _, m := range append(some(), many) {
		if e := method.Check(m); e != api.OK {
			t.Errorf("Check(%v) = %d", m, e)
		}
	}
}

// All calls say first what Check says, and nothing beside it.
func TestCallsSayWhatCheckSays(t *testing.T) {
	for _, w := range wrongMethods() {
		if e := method.Check(w.m); e != w.e {
			t.Errorf("%s: Check = %d, want %d", w.why, e, w.e)
		}
		if l, e := method.Lead(w.m); e != w.e || len(l) != 0 {
			t.Errorf("%s: Lead = %v, %d, want %d", w.why, l, e, w.e)
		}
		if h, n, e := method.Head(w.m); e != w.e || len(h) != 0 || n != 0 {
			t.Errorf("%s: Head = %v, %d, %d, want %d", w.why, h, n, e, w.e)
		}
		if c, e := method.Course(w.m); e != w.e || len(c) != 0 {
			t.Errorf("%s: Course = %v, %d, want %d", w.why, c, e, w.e)
		}
		if h, e := method.Hunts(w.m); e != w.e || len(h) != 0 {
			t.Errorf("%s: Hunts = %v, %d, want %d", w.why, h, e, w.e)
		}
		for _, bell := range []int{0, -1, 99} {
			if l, e := method.Line(w.m, bell); e != w.e || len(l) != 0 {
				t.Errorf("%s: Line = %v, %d, want %d", w.why, l, e, w.e)
			}
		}
		if ok, e := method.Mirrored(w.m); e != w.e || ok {
			t.Errorf("%s: Mirrored = %t, %d, want %d", w.why, ok, e, w.e)
		}
		if s, e := method.Write(w.m); e != w.e || s != "" {
			t.Errorf("%s: Write = %q, %d, want %d", w.why, s, e, w.e)
		}
	}
}

// M2.

func TestPlainBob(t *testing.T) {
	m := bobMinor()
	lead := rowsOf("123456", "214365", "241635", "426153", "462513", "645231", "654321", "563412", "536142", "351624", "315264", "132546", "135264")
	if l, e := method.Lead(m); e != api.OK || !same(l, lead) {
		t.Errorf("Lead = %v, %d", l, e)
	}
	if h, n, e := method.Head(m); e != api.OK || n != 5 || !slices.Equal(h, lead[12]) {
		t.Errorf("Head = %v, %d, %d", h, n, e)
	}
	if h, e := method.Hunts(m); e != api.OK || !slices.Equal(h, []int{0}) {
		t.Errorf("Hunts = %v, %d", h, e)
	}
	if l, e := method.Line(m, 1); e != api.OK || !slices.Equal(l, []int{2, 1, 1, 2, 3, 4, 5, 6, 6, 5, 4, 3, 4}) {
		t.Errorf("Line = %v, %d", l, e)
	}
	if ok, e := method.Mirrored(m); e != api.OK || !ok {
		t.Errorf("Mirrored = %t, %d", ok, e)
	}
	if s, e := method.Write(m); e != api.OK || s != "Plain Bob Minor|6|x16x16x16x16x16x12" {
		t.Errorf("Write = %q, %d", s, e)
	}
	c, e := method.Course(m)
	if e != api.OK || len(c) != 60 || !same(c[:12], lead[:12]) {
		t.Fatalf("Course = %v, %d", c, e)
	}
	// The second lead begins with the head, and goes on as the first one does.
	if !same(c[12:15], rowsOf("135264", "312546", "321456")) {
		t.Errorf("the second lead begins with %v", c[12:15])
	}
	for i, text := range map[int]string{24: "156342", 36: "164523", 48: "142635", 59: "124365"} {
		if !slices.Equal(c[i], rowsOf(text)[0]) {
			t.Errorf("Course: row %d is %v, want %s", i, c[i], text)
		}
	}
}

func TestShortMethods(t *testing.T) {
	for _, c := range []struct {
		name         string
		n            int
		changes      [][]int
		head, hunts  []int
		leads        int
		course, lead [][]int
	}{
		{"two bells, nothing made", 2, [][]int{nil}, []int{1, 0}, nil, 2, rowsOf("12", "21"), rowsOf("12", "21")},
		{"two bells, all made", 2, [][]int{{1, 2}}, []int{0, 1}, []int{0, 1}, 1, rowsOf("12"), rowsOf("12", "12")},
		{"two bells, there and back", 2, [][]int{nil, nil}, []int{0, 1}, []int{0, 1}, 1, rowsOf("12", "21"), rowsOf("12", "21", "12")},
		{"three bells", 3, [][]int{{3}, {1}}, []int{1, 2, 0}, nil, 3, rowsOf("123", "213", "231", "321", "312", "132"), rowsOf("123", "213", "231")},
		{"four bells, one change", 4, [][]int{{1, 4}}, []int{0, 2, 1, 3}, []int{0, 3}, 2, rowsOf("1234", "1324"), rowsOf("1234", "1324")},
	} {
		m := api.Method{Name: "Short", Bells: c.n, Changes: c.changes}
		if l, e := method.Lead(m); e != api.OK || !same(l, c.lead) {
			t.Errorf("%s: Lead = %v, %d", c.name, l, e)
		}
		if h, n, e := method.Head(m); e != api.OK || n != c.leads || !slices.Equal(h, c.head) {
			t.Errorf("%s: Head = %v, %d, %d", c.name, h, n, e)
		}
		if l, e := method.Course(m); e != api.OK || !same(l, c.course) {
			t.Errorf("%s: Course = %v, %d", c.name, l, e)
		}
		if h, e := method.Hunts(m); e != api.OK || !slices.Equal(h, c.hunts) {
			t.Errorf("%s: Hunts = %v, %d", c.name, h, e)
		}
	}
}

// rung are rows, changed by the changes again and again: bell by bell, without the package's help.
func rung(m api.Method, leads int) [][]int {
	r := make([]int, m.Bells)
	for i := range r {
		r[i] = i
	}
	rows := [][]int{r}
	for range leads {
		for _, places := range m.Changes {
			r = slices.Clone(r)
			for i := 0; i < m.Bells; i++ {
				if !slices.Contains(places, i+1) {
					r[i], r[i+1] = r[i+1], r[i]
					i++
				}
			}
			rows = append(rows, r)
		}
	}
	return rows
}

func TestRowsOfMany(t *testing.T) {
	for _, m := range some() {
		lead := rung(m, 1)
		head := lead[len(lead)-1]
		if l, e := method.Lead(m); e != api.OK || !same(l, lead) {
			t.Errorf("Lead(%v) = %v, %d", m, l, e)
		}
		h, leads, e := method.Head(m)
		if e != api.OK || !slices.Equal(h, head) || leads < 1 {
			t.Fatalf("Head(%v) = %v, %d, %d", m, h, leads, e)
		}
		all := rung(m, leads)
		for k := 1; k <= leads; k++ {
			if slices.Equal(all[k*len(m.Changes)], all[0]) != (k == leads) {
				t.Errorf("Head(%v): rounds come behind %d leads, not %d", m, k, leads)
			}
		}
		if c, e := method.Course(m); e != api.OK || !same(c, all[:len(all)-1]) {
			t.Errorf("Course(%v): %d rows, %d, want %d", m, len(c), e, len(all)-1)
		}
		hunts, e := method.Hunts(m)
		if e != api.OK || !slices.IsSorted(hunts) {
			t.Errorf("Hunts(%v) = %v, %d", m, hunts, e)
		}
		for bell := range m.Bells {
			if slices.Contains(hunts, bell) != (head[bell] == bell) {
				t.Errorf("Hunts(%v) = %v", m, hunts)
			}
			line, e := method.Line(m, bell)
			if e != api.OK || len(line) != len(lead) {
				t.Fatalf("Line(%v, %d) = %v, %d", m, bell, line, e)
			}
			for i, at := range line {
				if at < 1 || at > m.Bells || lead[i][at-1] != bell {
					t.Errorf("Line(%v, %d) = %v", m, bell, line)
				}
			}
		}
	}
}

func TestLongestCourse(t *testing.T) {
	m := longest()
	if _, n, e := method.Head(m); e != api.OK || n != 60 {
		t.Errorf("Head: %d leads, %d", n, e)
	}
	if c, e := method.Course(m); e != api.OK || len(c) != 60*api.MaxChanges {
		t.Errorf("Course: %d rows, %d", len(c), e)
	}
}

func TestLineRefusesOtherBells(t *testing.T) {
	for _, m := range []api.Method{bobMinor(), grandsire(), longest()} {
		for _, bell := range []int{math.MinInt, -1, m.Bells, m.Bells + 1, math.MaxInt} {
			if l, e := method.Line(m, bell); e != api.ErrValue || len(l) != 0 {
				t.Errorf("Line(%s, %d) = %v, %d, want ErrValue", m.Name, bell, l, e)
			}
		}
	}
}

func TestMirrored(t *testing.T) {
	a, b, c := []int{}, []int{1, 4}, []int{1, 2}
	for _, x := range []struct {
		changes [][]int
		want    bool
	}{
		{[][]int{a}, true},
		{[][]int{a, b}, true},
		{[][]int{a, a, b}, true},
		{[][]int{a, nil, b}, true},
		{[][]int{a, b, c}, false},
		{[][]int{a, b, a, c}, true},
		{[][]int{a, b, a, a}, true},
		{[][]int{a, b, b, c}, false},
		{[][]int{a, b, b, a}, false},
		{[][]int{b, c, c, b, a}, true},
		{[][]int{b, c, a, b, a}, false},
		{slices.Repeat([][]int{b}, api.MaxChanges), true},
		{append([][]int{c}, slices.Repeat([][]int{b}, api.MaxChanges-1)...), false},
		{append(slices.Repeat([][]int{b}, api.MaxChanges-1), c), true},
	} {
		m := api.Method{Name: "M", Bells: 4, Changes: x.changes}
		if got, e := method.Mirrored(m); e != api.OK || got != x.want {
			t.Errorf("Mirrored(%v) = %t, %d", x.changes, got, e)
		}
	}
}

// M3.

func TestWrite(t *testing.T) {
	for want, m := range map[string]api.Method{
		"a|2|x":                 {Name: "a", Bells: 2, Changes: [][]int{{}}},
		"Two Rings|2|12.12x":    {Name: "Two Rings", Bells: 2, Changes: [][]int{{1, 2}, {1, 2}, nil}},
		"Été|5|3.1":             {Name: "Été", Bells: 5, Changes: [][]int{{3}, {1}}},
		"12|12|1Tx1234567890ET": {Name: "12", Bells: 12, Changes: [][]int{{1, 12}, {}, {1, 2, 3, 4, 5, 6, 7, 8, 9, 10, 11, 12}}},
		"ten|10|10":             {Name: "ten", Bells: 10, Changes: [][]int{{1, 10}}},
	} {
		if s, e := method.Write(m); e != api.OK || s != want {
			t.Errorf("Write(%v) = %q, %d, want %q", m, s, e, want)
		}
		if back, e := method.Read(want); e != api.OK || !sameMethods(back, m) {
			t.Errorf("Read(%q) = %v, %d, want %v", want, back, e, m)
		}
	}
}

func TestThereAndBack(t *testing.T) {
	wide := make([]int, api.MaxBells)
	for i := range wide {
		wide[i] = i + 1
	}
	greatest := api.Method{Name: strings.Repeat("ž", api.MaxName), Bells: api.MaxBells, Changes: slices.Repeat([][]int{wide}, api.MaxChanges)}
	for _, m := range append(some(), greatest) {
		s, e := method.Write(m)
		if e != api.OK {
			t.Fatalf("Write(%v): %d", m, e)
		}
		if back, e := method.Read(s); e != api.OK || !sameMethods(back, m) {
			t.Errorf("Read(%q) = %v, %d", s, back, e)
		}
	}
}

func TestRead(t *testing.T) {
	if m, e := method.Read("Plain Bob Minor|6|&x16x16x16,12"); e != api.OK || !sameMethods(m, bobMinor()) {
		t.Errorf("Read of Plain Bob = %v, %d", m, e)
	}
	want := api.Method{Name: "É 1", Bells: 4, Changes: [][]int{{}, {1, 4}, {1, 2}}}
	for _, line := range []string{"É 1|4|x14.12", "É 1|4|-4.2", "É 1|4|+×14,2"} {
		if m, e := method.Read(line); e != api.OK || !sameMethods(m, want) {
			t.Errorf("Read(%q) = %v, %d", line, m, e)
		}
	}
}

func TestReadRefuses(t *testing.T) {
	long := strings.Repeat("x", api.MaxText)
	for _, c := range []struct {
		why, line string
		e         api.Errno
	}{
		{"nothing", "", api.ErrShort},
		{"a name alone", "a", api.ErrShort},
		{"one bar", "a|6", api.ErrShort},
		{"one bar, and no name", "|", api.ErrShort},
		{"bytes that are no rune, one bar", "\xff|", api.ErrShort},
		{"three bars", "a|6|x|", api.ErrWord},
		{"three bars, and no name", "|||", api.ErrWord},
		{"four bars", "a||6||x", api.ErrWord},
		{"two bars alone", "||", api.ErrName},
		{"no name", "|6|x", api.ErrName},
		{"a blank first", " a|6|x", api.ErrName},
		{"a blank last", "a |6|x", api.ErrName},
		{"a name too long", strings.Repeat("a", api.MaxName+1) + "|6|x", api.ErrName},
		{"a name that is no rune", "a\xff|6|x", api.ErrName},
		{"no name, no number", "×|z|z", api.ErrName},
		{"no number", "a||x", api.ErrWord},
		{"a letter", "a|z|x", api.ErrWord},
		{"a sign of a bell", "a|T|x", api.ErrWord},
		{"a blank ahead of a number", "a| 6|x", api.ErrWord},
		{"a blank behind a number", "a|6 |x", api.ErrWord},
		{"plus", "a|+6|x", api.ErrWord},
		{"minus", "a|-6|x", api.ErrWord},
		{"a nought ahead", "a|06|x", api.ErrWord},
		{"two noughts", "a|00|x", api.ErrWord},
		{"a stroke in a number", "a|1_0|x", api.ErrWord},
		{"a number of another base", "a|0x6|x", api.ErrWord},
		{"a part of a number", "a|6.0|x", api.ErrWord},
		{"a digit of three bytes", "a|６|x", api.ErrWord},
		{"a byte that is no rune in a number", "a|6\xff|x", api.ErrWord},
		{"a nought ahead of too many", "a|013|z", api.ErrWord},
		{"no bells", "a|0|x", api.ErrCount},
		{"one bell", "a|1|1", api.ErrCount},
		{"one bell too many", "a|13|1", api.ErrCount},
		{"too many, and wrong changes", "a|13|z", api.ErrCount},
		{"just above 64 bits", "a|18446744073709551618|x", api.ErrCount},
		{"a number of many digits", "a|" + strings.Repeat("9", 3000) + "|x", api.ErrCount},
		{"no changes", "a|6|", api.ErrShort},
		{"a mark alone", "a|6|&", api.ErrShort},
		{"wrong signs", "a|6|61", api.ErrPlace},
		{"a cross of five", "a|5|x", api.ErrPlace},
		{"a wrong rune", "a|6|xz", api.ErrWord},
		{"a newline last", "a|6|x\n", api.ErrWord},
		{"a byte that is no rune", "a|6|x\xff", api.ErrWord},
		{"one change too many", "a|6|" + strings.Repeat("x", api.MaxChanges+1), api.ErrLimit},
		{"one too many when told back again", "a|6|&" + strings.Repeat("x", 101), api.ErrLimit},
		{"MaxText bytes without a bar", long, api.ErrShort},
		{"one more", long + "x", api.ErrLimit},
		{"MaxText bytes of bars", strings.Repeat("|", api.MaxText), api.ErrWord},
		{"one more bar", strings.Repeat("|", api.MaxText+1), api.ErrLimit},
		{"MaxText bytes, wrong at once", ("a|6|z" + long)[:api.MaxText], api.ErrWord},
		{"one more, wrong at once", ("a|6|z" + long)[:api.MaxText+1], api.ErrLimit},
		{"MaxText bytes, two a rune", strings.Repeat("é", api.MaxText/2), api.ErrShort},
		{"one more, two a rune", strings.Repeat("é", api.MaxText/2) + "|", api.ErrLimit},
	} {
		if m, e := method.Read(c.line); e != c.e || !isZero(m) {
			t.Errorf("%s: Read(%.40q) = %v, %d, want %d", c.why, c.line, m, e, c.e)
		}
	}
}

func TestReadOfEachNumber(t *testing.T) {
	for bells, text := range []string{"0", "1", "2", "3", "4", "5", "6", "7", "8", "9", "10", "11", "12", "13", "14"} {
		want := api.OK
		if bells < 2 || bells > api.MaxBells {
			want = api.ErrCount
		}
		m, e := method.Read("a|" + text + "|1")
		if e != want || e == api.OK && m.Bells != bells {
			t.Errorf("Read with %s bells = %v, %d, want %d", text, m, e, want)
		}
	}
}

// X1, X2.

func copied(m api.Method) api.Method {
	var changes [][]int
	for _, places := range m.Changes {
		changes = append(changes, slices.Clone(places))
	}
	return api.Method{Name: m.Name, Bells: m.Bells, Changes: changes}
}

// roomy is a method whose lists have more behind them in memory.
func roomy(m api.Method) api.Method {
	m = copied(m)
	for i, places := range m.Changes {
		m.Changes[i] = append(places, 77, 78)[:len(places)]
	}
	m.Changes = append(m.Changes, []int{79})[:len(m.Changes)]
	return m
}

func untouched(given, m api.Method) bool {
	for _, places := range given.Changes {
		if !slices.Equal(places[len(places):len(places)+2], []int{77, 78}) {
			return false
		}
	}
	return sameMethods(given, m) && slices.Equal(given.Changes[:len(m.Changes)+1][len(m.Changes)], []int{79})
}

func TestMethodsHandedInStay(t *testing.T) {
	l := []api.Method{bobMinor(), grandsire()}
	for _, w := range wrongMethods() {
		l = append(l, w.m)
	}
	for _, m := range l {
		given := roomy(m)
		method.Check(given)
		method.Lead(given)
		method.Head(given)
		method.Course(given)
		method.Hunts(given)
		method.Line(given, 0)
		method.Mirrored(given)
		method.Write(given)
		if !untouched(given, m) {
			t.Errorf("%v became %v", m, given)
		}
	}
}

// spoil writes into all of a list's memory, that behind its end too.
func spoil(l []int) {
	l = l[:cap(l)]
	for i := range l {
		l[i] = -5
	}
}

func TestAnswersShareNoMemory(t *testing.T) {
	still := api.Method{Name: "Still", Bells: 4, Changes: [][]int{{1, 2, 3, 4}, {1, 2, 3, 4}}}
	answers := map[string]func(m api.Method) [][]int{
		"Lead":   func(m api.Method) [][]int { l, _ := method.Lead(m); return l },
		"Head":   func(m api.Method) [][]int { h, _, _ := method.Head(m); return [][]int{h} },
		"Course": func(m api.Method) [][]int { l, _ := method.Course(m); return l },
		"Hunts":  func(m api.Method) [][]int { h, _ := method.Hunts(m); return [][]int{h} },
		"Line":   func(m api.Method) [][]int { l, _ := method.Line(m, 0); return [][]int{l} },
		"Read": func(m api.Method) [][]int {
			s, _ := method.Write(m)
			back, _ := method.Read(s)
			return back.Changes
		},
	}
	for name, answer := range answers {
		for _, m := range []api.Method{bobMinor(), grandsire(), still} {
			given := copied(m)
			want := answer(given)
			for i := range want {
				got := answer(given)
				spoil(got[i])
				got[i] = want[i]
				if !same(got, want) || !same(answer(given), want) || !sameMethods(given, m) {
					t.Errorf("%s(%s): the %d-th list shares memory", name, m.Name, i)
				}
			}
		}
	}
}

func TestAnswersHangOnArgumentsAlone(t *testing.T) {
	first, _ := method.Course(bobMinor())
	m := bobMinor()
	m.Changes[11] = []int{1, 6}
	other, _ := method.Course(m)
	method.Read("a|6|z")
	again, e := method.Course(bobMinor())
	if e != api.OK || !reflect.DeepEqual(first, again) || same(first, other) {
		t.Errorf("Course hangs on more than its argument: %d", e)
	}
}
