package row_test

import (
	"math"
	"slices"
	"strings"
	"testing"

	"campanile/api"
	"campanile/row"
)

// upTo is 0, 1, .., n - 1, whether such a row may be or not.
func upTo(n int) []int {
	r := make([]int, n)
	for i := range r {
		r[i] = i
	}
	return r
}

// allRows are all rows of n bells, in order; found without the package's help.
func allRows(n int) [][]int {
	var all [][]int
	var grow func(r []int)
	grow = func(r []int) {
		if len(r) == n {
			all = append(all, slices.Clone(r))
			return
		}
		for bell := range n {
			if !slices.Contains(r, bell) {
				grow(append(r, bell))
			}
		}
	}
	grow(nil)
	return all
}

// few are all rows of 1 to 6 bells, for what is tried on every one.
func few() [][]int {
	var rows [][]int
	for n := 1; n <= 6; n++ {
		rows = append(rows, allRows(n)...)
	}
	return rows
}

type wrongRow struct {
	name string
	r    []int
	e    api.Errno
}

func wrongRows() []wrongRow {
	return []wrongRow{
		{"nil", nil, api.ErrCount},
		{"no bells", []int{}, api.ErrCount},
		{"one bell more than MaxBells", upTo(api.MaxBells + 1), api.ErrCount},
		{"too many, and no row", make([]int, api.MaxBells+1), api.ErrCount},
		{"many too many", make([]int, 100000), api.ErrCount},
		{"one bell that is not 0", []int{1}, api.ErrRow},
		{"below 0", []int{-1, 0}, api.ErrRow},
		{"bells from 1 on", []int{1, 2, 3}, api.ErrRow},
		{"twice the first", []int{0, 0}, api.ErrRow},
		{"twice, the last one missing", []int{0, 1, 2, 1}, api.ErrRow},
		{"as great as there are bells", []int{0, 1, 3}, api.ErrRow},
		{"MaxBells, one twice", []int{0, 1, 2, 3, 4, 5, 6, 7, 8, 9, 10, 10}, api.ErrRow},
		{"MaxBells, one too great", []int{0, 1, 2, 3, 4, 5, 6, 7, 8, 9, 10, 12}, api.ErrRow},
		{"the greatest number", []int{0, math.MaxInt}, api.ErrRow},
		{"the least number", []int{math.MinInt, 0}, api.ErrRow},
	}
}

func TestErrnosAreAsNumbered(t *testing.T) {
	if api.OK != 0 || api.ErrCount != 1 || api.ErrRow != 2 || api.ErrWord != 4 || api.ErrValue != 12 {
		t.Error("errors have other numbers than the document gives them")
	}
}

// R1.

func TestCheckTakesRows(t *testing.T) {
	for _, r := range few() {
		if e := row.Check(r); e != api.OK {
			t.Errorf("Check(%v) = %d", r, e)
		}
	}
	last := upTo(api.MaxBells)
	slices.Reverse(last)
	for _, r := range [][]int{{0}, upTo(api.MaxBells), last} {
		if e := row.Check(r); e != api.OK {
			t.Errorf("Check(%v) = %d", r, e)
		}
	}
}

func TestCheckRefusesOthers(t *testing.T) {
	for _, w := range wrongRows() {
		if e := row.Check(w.r); e != w.e {
			t.Errorf("%s: Check = %d, want %d", w.name, e, w.e)
		}
	}
}

// Every list of up to four numbers from -1 to 4: a row is one that allRows has.
func TestCheckOfAllShortLists(t *testing.T) {
	for n := 1; n <= 4; n++ {
		rows := allRows(n)
		taken := 0
		var grow func(l []int)
		grow = func(l []int) {
			if len(l) < n {
				for x := -1; x <= 4; x++ {
					grow(append(l, x))
				}
				return
			}
			want := api.ErrRow
			if slices.ContainsFunc(rows, func(r []int) bool { return slices.Equal(r, l) }) {
				want = api.OK
				taken++
			}
			if e := row.Check(l); e != want {
				t.Errorf("Check(%v) = %d, want %d", l, e, want)
			}
		}
		grow(nil)
		if taken != len(rows) {
			t.Errorf("%d bells: %d lists were rows, want %d", n, taken, len(rows))
		}
	}
}

func TestRounds(t *testing.T) {
	for n := 1; n <= api.MaxBells; n++ {
		if r, e := row.Rounds(n); e != api.OK || !slices.Equal(r, upTo(n)) {
			t.Errorf("Rounds(%d) = %v, %d", n, r, e)
		}
	}
	for _, n := range []int{math.MinInt, -1, 0, api.MaxBells + 1, math.MaxInt} {
		if r, e := row.Rounds(n); e != api.ErrCount || len(r) != 0 {
			t.Errorf("Rounds(%d) = %v, %d", n, r, e)
		}
	}
}

// All calls that are given a row say first what Check says, and nothing beside it.
func TestCallsSayWhatCheckSays(t *testing.T) {
	for _, w := range wrongRows() {
		if r, e := row.Times(w.r, []int{0, 1, 2}); e != w.e || len(r) != 0 {
			t.Errorf("%s: Times, first = %v, %d, want %d", w.name, r, e, w.e)
		}
		if r, e := row.Times([]int{0, 1, 2}, w.r); e != w.e || len(r) != 0 {
			t.Errorf("%s: Times, second = %v, %d, want %d", w.name, r, e, w.e)
		}
		if r, e := row.Back(w.r); e != w.e || len(r) != 0 {
			t.Errorf("%s: Back = %v, %d, want %d", w.name, r, e, w.e)
		}
		if c, e := row.Cycles(w.r); e != w.e || len(c) != 0 {
			t.Errorf("%s: Cycles = %v, %d, want %d", w.name, c, e, w.e)
		}
		if order, odd, e := row.Order(w.r); e != w.e || order != 0 || odd {
			t.Errorf("%s: Order = %d, %t, %d, want %d", w.name, order, odd, e, w.e)
		}
		if k, e := row.Rank(w.r); e != w.e || k != 0 {
			t.Errorf("%s: Rank = %d, %d, want %d", w.name, k, e, w.e)
		}
		if s, e := row.Text(w.r); e != w.e || s != "" {
			t.Errorf("%s: Text = %q, %d, want %d", w.name, s, e, w.e)
		}
	}
}

// R2.

func TestTimes(t *testing.T) {
	for _, c := range []struct{ a, b, want []int }{
		{[]int{1, 0, 3, 2}, []int{0, 2, 1, 3}, []int{1, 3, 0, 2}},
		{[]int{0, 2, 1, 3}, []int{1, 0, 3, 2}, []int{2, 0, 3, 1}},
		{[]int{1, 2, 0}, []int{1, 0, 2}, []int{2, 1, 0}},
		{[]int{0}, []int{0}, []int{0}},
		{
			[]int{11, 10, 9, 8, 7, 6, 5, 4, 3, 2, 1, 0},
			[]int{1, 2, 3, 4, 5, 6, 7, 8, 9, 10, 11, 0},
			[]int{10, 9, 8, 7, 6, 5, 4, 3, 2, 1, 0, 11},
		},
	} {
		if r, e := row.Times(c.a, c.b); e != api.OK || !slices.Equal(r, c.want) {
			t.Errorf("Times(%v, %v) = %v, %d, want %v", c.a, c.b, r, e, c.want)
		}
	}
}

func TestTimesOfAllPairs(t *testing.T) {
	rows := allRows(4)
	for _, a := range rows {
		for _, b := range rows {
			r, e := row.Times(a, b)
			if e != api.OK || len(r) != len(a) {
				t.Fatalf("Times(%v, %v) = %v, %d", a, b, r, e)
			}
			for i := range r {
				if r[i] != a[b[i]] {
					t.Errorf("Times(%v, %v) = %v", a, b, r)
				}
			}
		}
	}
}

func TestTimesErrorsInOrder(t *testing.T) {
	twice, none, many := []int{0, 0}, []int{}, upTo(api.MaxBells+1)
	for _, c := range []struct {
		a, b []int
		e    api.Errno
	}{
		{twice, none, api.ErrRow},
		{none, twice, api.ErrCount},
		{twice, many, api.ErrRow},
		{many, twice, api.ErrCount},
		{[]int{0, 1, 2}, twice, api.ErrRow},
		{twice, []int{0, 1, 2}, api.ErrRow},
		{[]int{0, 1, 2}, []int{0, 1}, api.ErrCount},
		{[]int{0, 1}, []int{0, 1, 2}, api.ErrCount},
		{[]int{0}, upTo(api.MaxBells), api.ErrCount},
	} {
		if r, e := row.Times(c.a, c.b); e != c.e || len(r) != 0 {
			t.Errorf("Times(%v, %v) = %v, %d, want %d", c.a, c.b, r, e, c.e)
		}
	}
}

func TestBack(t *testing.T) {
	if r, e := row.Back([]int{1, 2, 3, 0}); e != api.OK || !slices.Equal(r, []int{3, 0, 1, 2}) {
		t.Errorf("Back(2341) = %v, %d", r, e)
	}
	turned := []int{1, 2, 3, 4, 5, 6, 7, 8, 9, 10, 11, 0}
	if r, e := row.Back(turned); e != api.OK || !slices.Equal(r, []int{11, 0, 1, 2, 3, 4, 5, 6, 7, 8, 9, 10}) {
		t.Errorf("Back of twelve, turned = %v, %d", r, e)
	}
	for _, r := range few() {
		back, e := row.Back(r)
		if e != api.OK {
			t.Fatalf("Back(%v): %d", r, e)
		}
		if x, e := row.Times(r, back); e != api.OK || !slices.Equal(x, upTo(len(r))) {
			t.Errorf("%v, changed by its Back %v: %v, %d", r, back, x, e)
		}
	}
}

// R3.

func sameLists(a, b [][]int) bool {
	return slices.EqualFunc(a, b, func(x, y []int) bool { return slices.Equal(x, y) })
}

func TestCycles(t *testing.T) {
	for _, c := range []struct {
		r    []int
		want [][]int
	}{
		{[]int{0}, [][]int{{0}}},
		{[]int{0, 1, 2}, [][]int{{0}, {1}, {2}}},
		{[]int{1, 2, 0, 4, 3}, [][]int{{0, 1, 2}, {3, 4}}},
		{[]int{2, 0, 1}, [][]int{{0, 2, 1}}},
		{[]int{3, 1, 0, 2}, [][]int{{0, 3, 2}, {1}}},
		{[]int{4, 3, 2, 1, 0}, [][]int{{0, 4}, {1, 3}, {2}}},
		{
			[]int{1, 2, 3, 4, 5, 6, 7, 8, 9, 10, 11, 0},
			[][]int{{0, 1, 2, 3, 4, 5, 6, 7, 8, 9, 10, 11}},
		},
		{
			upTo(api.MaxBells),
			[][]int{{0}, {1}, {2}, {3}, {4}, {5}, {6}, {7}, {8}, {9}, {10}, {11}},
		},
	} {
		if l, e := row.Cycles(c.r); e != api.OK || !sameLists(l, c.want) {
			t.Errorf("Cycles(%v) = %v, %d, want %v", c.r, l, e, c.want)
		}
	}
}

func TestCyclesOfAllFew(t *testing.T) {
	for _, r := range few() {
		cycles, e := row.Cycles(r)
		if e != api.OK {
			t.Fatalf("Cycles(%v): %d", r, e)
		}
		bells, least := 0, -1
		for _, c := range cycles {
			if len(c) == 0 || c[0] != slices.Min(c) || c[0] <= least {
				t.Fatalf("Cycles(%v) = %v: not by their least", r, cycles)
			}
			least = c[0]
			bells += len(c)
			for i, bell := range c {
				if r[bell] != c[(i+1)%len(c)] {
					t.Errorf("Cycles(%v) = %v: %d leads elsewhere", r, cycles, bell)
				}
			}
		}
		if bells != len(r) {
			t.Errorf("Cycles(%v) = %v: not each bell once", r, cycles)
		}
	}
}

func TestOrder(t *testing.T) {
	for _, c := range []struct {
		r     []int
		order int
		odd   bool
	}{
		{[]int{0}, 1, false},
		{[]int{1, 0}, 2, true},
		{[]int{1, 0, 3, 2}, 2, false},
		{[]int{1, 2, 3, 0}, 4, true},
		{[]int{1, 2, 0, 4, 3}, 6, true},
		{upTo(api.MaxBells), 1, false},
		{[]int{1, 2, 0, 4, 5, 6, 3, 8, 9, 10, 11, 7}, 60, true},
		{[]int{1, 0, 3, 4, 5, 2, 7, 8, 9, 10, 11, 6}, 12, true},
		{[]int{1, 2, 3, 4, 5, 6, 7, 8, 9, 10, 11, 0}, 12, true},
	} {
		if order, odd, e := row.Order(c.r); e != api.OK || order != c.order || odd != c.odd {
			t.Errorf("Order(%v) = %d, %t, %d, want %d, %t", c.r, order, odd, e, c.order, c.odd)
		}
	}
}

// By what the words say: changed again and again; a row is odd just if an odd number of pairs stands the wrong way round.
func TestOrderOfAllFew(t *testing.T) {
	for _, r := range few() {
		want, now := 1, slices.Clone(r)
		for !slices.Equal(now, upTo(len(r))) {
			now, _ = row.Times(now, r)
			want++
		}
		pairs := 0
		for i := range r {
			for j := range i {
				if r[j] > r[i] {
					pairs++
				}
			}
		}
		if order, odd, e := row.Order(r); e != api.OK || order != want || odd != (pairs%2 == 1) {
			t.Errorf("Order(%v) = %d, %t, %d, want %d", r, order, odd, e, want)
		}
	}
}

// R4.

func TestRankAndAtOfAllFew(t *testing.T) {
	for n := 1; n <= 7; n++ {
		for k, r := range allRows(n) {
			if rank, e := row.Rank(r); e != api.OK || rank != k {
				t.Errorf("Rank(%v) = %d, %d, want %d", r, rank, e, k)
			}
			if at, e := row.At(n, k); e != api.OK || !slices.Equal(at, r) {
				t.Errorf("At(%d, %d) = %v, %d, want %v", n, k, at, e, r)
			}
		}
	}
}

func TestRankOfTheDocument(t *testing.T) {
	if k, e := row.Rank([]int{3, 1, 0, 2}); e != api.OK || k != 20 {
		t.Errorf("Rank(4213) = %d, %d", k, e)
	}
}

func TestFirstAndLastRank(t *testing.T) {
	rows := 1
	for n := 1; n <= api.MaxBells; n++ {
		rows *= n
		last := upTo(n)
		slices.Reverse(last)
		for k, r := range map[int][]int{0: upTo(n), rows - 1: last} {
			if at, e := row.At(n, k); e != api.OK || !slices.Equal(at, r) {
				t.Errorf("At(%d, %d) = %v, %d, want %v", n, k, at, e, r)
			}
			if rank, e := row.Rank(r); e != api.OK || rank != k {
				t.Errorf("Rank(%v) = %d, %d, want %d", r, rank, e, k)
			}
		}
		for _, k := range []int{math.MinInt, -1, rows, rows + 1, math.MaxInt} {
			if at, e := row.At(n, k); e != api.ErrValue || len(at) != 0 {
				t.Errorf("At(%d, %d) = %v, %d, want ErrValue", n, k, at, e)
			}
		}
	}
}

func TestAtOfManyBells(t *testing.T) {
	for k := 0; k < 479001600; k += 1234567 {
		r, e := row.At(api.MaxBells, k)
		if e != api.OK {
			t.Fatalf("At(12, %d): %d", k, e)
		}
		if rank, e := row.Rank(r); e != api.OK || rank != k {
			t.Errorf("Rank(At(12, %d)) = %d, %d", k, rank, e)
		}
	}
}

func TestAtRefusesTheCountFirst(t *testing.T) {
	for _, n := range []int{math.MinInt, -1, 0, api.MaxBells + 1, 100, math.MaxInt} {
		for _, k := range []int{math.MinInt, -1, 0, 1, math.MaxInt} {
			if r, e := row.At(n, k); e != api.ErrCount || len(r) != 0 {
				t.Errorf("At(%d, %d) = %v, %d, want ErrCount", n, k, r, e)
			}
		}
	}
}

// R5.

func TestText(t *testing.T) {
	for _, c := range []struct {
		r    []int
		text string
	}{
		{[]int{0}, "1"},
		{[]int{1, 3, 0, 2}, "2413"},
		{upTo(api.MaxBells), "1234567890ET"},
		{[]int{11, 10, 9, 8, 7, 6, 5, 4, 3, 2, 1, 0}, "TE0987654321"},
	} {
		if s, e := row.Text(c.r); e != api.OK || s != c.text {
			t.Errorf("Text(%v) = %q, %d, want %q", c.r, s, e, c.text)
		}
		if r, e := row.Read(c.text); e != api.OK || !slices.Equal(r, c.r) {
			t.Errorf("Read(%q) = %v, %d, want %v", c.text, r, e, c.r)
		}
	}
}

func TestThereAndBack(t *testing.T) {
	for _, r := range few() {
		s, e := row.Text(r)
		if e != api.OK || len(s) != len(r) {
			t.Fatalf("Text(%v) = %q, %d", r, s, e)
		}
		if x, e := row.Read(s); e != api.OK || !slices.Equal(x, r) {
			t.Errorf("Read(%q) = %v, %d", s, x, e)
		}
	}
}

func TestReadRefuses(t *testing.T) {
	for _, c := range []struct {
		name, text string
		e          api.Errno
	}{
		{"nothing", "", api.ErrCount},
		{"one sign more than bells", "1234567890ET1", api.ErrCount},
		{"many signs", strings.Repeat("1", 100000), api.ErrCount},
		{"a bell twice", "11", api.ErrRow},
		{"not from the first bell on", "2", api.ErrRow},
		{"a bell missing", "124", api.ErrRow},
		{"no ten of ten bells", "123456789E", api.ErrRow},
		{"a letter", "12z", api.ErrWord},
		{"the last signs in small letters", "1234567890et", api.ErrWord},
		{"a blank", "1 2", api.ErrWord},
		{"a newline", "12\n", api.ErrWord},
		{"a nought byte", "12\x00", api.ErrWord},
		{"a letter of two bytes", "12é", api.ErrWord},
		{"a digit of three bytes", "１", api.ErrWord},
		{"a rune whose low byte is a sign's", "\u0131", api.ErrWord},
		{"a rune of four bytes", "12\U0001f514", api.ErrWord},
		{"a byte that is no rune", "\xff", api.ErrWord},
		{"a rune cut off", "21\xc3", api.ErrWord},
		{"the rune for what is none", "12\ufffd", api.ErrWord},
		{"no sign, and a bell twice", "11z", api.ErrWord},
		{"no sign, and too many", "1234567890ET1z", api.ErrWord},
		{"no sign far behind too many", strings.Repeat("1", 100000) + "z", api.ErrWord},
		{"no rune far behind too many", strings.Repeat("1", 100000) + "\xff", api.ErrWord},
		{"too many, and a bell twice", "1122334455667", api.ErrCount},
	} {
		if r, e := row.Read(c.text); e != c.e || len(r) != 0 {
			t.Errorf("%s: Read = %v, %d, want %d", c.name, r, e, c.e)
		}
	}
}

func TestReadOfEachRuneAlone(t *testing.T) {
	for sign := rune(-1); sign <= 0x3000; sign++ {
		want := api.ErrWord
		if sign == '1' {
			want = api.OK
		} else if strings.ContainsRune("234567890ET", sign) {
			want = api.ErrRow
		}
		if _, e := row.Read(string(sign)); e != want {
			t.Errorf("Read of the rune %#x: %d, want %d", sign, e, want)
		}
	}
}

// X1, X2.

// A list with more behind it in memory: neither it nor that may be written into.
func roomy(r []int) (list, whole []int) {
	whole = append(slices.Clone(r), 77, 78, 79)
	return whole[:len(r)], whole
}

func callAll(a, b []int) {
	row.Check(a)
	row.Times(a, b)
	row.Back(a)
	row.Cycles(a)
	row.Order(a)
	row.Rank(a)
	row.Text(a)
}

func TestListsHandedInStay(t *testing.T) {
	lists := [][]int{{3, 1, 0, 2}, {0}, {}, {1, 1}, upTo(api.MaxBells), upTo(api.MaxBells + 1)}
	for _, x := range lists {
		for _, y := range lists {
			a, wholeA := roomy(x)
			b, wholeB := roomy(y)
			callAll(a, b)
			if !slices.Equal(wholeA, append(slices.Clone(x), 77, 78, 79)) {
				t.Errorf("%v became %v", x, wholeA)
			}
			if !slices.Equal(wholeB, append(slices.Clone(y), 77, 78, 79)) {
				t.Errorf("%v became %v", y, wholeB)
			}
		}
	}
}

// spoil writes into all of a list's memory, that behind its end too.
func spoil(l []int) {
	l = l[:cap(l)]
	for i := range l {
		l[i] = -5
	}
}

func TestAnswersAreFresh(t *testing.T) {
	answers := map[string]func(r []int) []int{
		"Rounds": func(r []int) []int { x, _ := row.Rounds(len(r)); return x },
		"Times":  func(r []int) []int { x, _ := row.Times(r, upTo(len(r))); return x },
		"Behind": func(r []int) []int { x, _ := row.Times(upTo(len(r)), r); return x },
		"Back":   func(r []int) []int { x, _ := row.Back(r); return x },
		"At":     func(r []int) []int { x, _ := row.At(len(r), 0); return x },
		"Read":   func(r []int) []int { x, _ := row.Read("21"); return x },
	}
	for name, answer := range answers {
		for _, r := range [][]int{{0}, {1, 0}, {3, 1, 0, 2}, upTo(api.MaxBells)} {
			given := slices.Clone(r)
			first := answer(given)
			kept := slices.Clone(first)
			second := answer(given)
			spoil(first)
			if !slices.Equal(given, r) {
				t.Errorf("%s(%v): its answer is the list that was handed in", name, r)
			}
			if !slices.Equal(second, kept) || !slices.Equal(answer(given), kept) {
				t.Errorf("%s(%v): two answers share memory", name, r)
			}
		}
	}
}

func TestCyclesShareNoMemory(t *testing.T) {
	for _, r := range few() {
		given := slices.Clone(r)
		want, _ := row.Cycles(r)
		for i := range want {
			got, _ := row.Cycles(given)
			spoil(got[i])
			got[i] = want[i]
			if !sameLists(got, want) || !slices.Equal(given, r) {
				t.Errorf("Cycles(%v): the %d-th shares memory", r, i)
			}
		}
	}
}

func TestAnswersHangOnArgumentsAlone(t *testing.T) {
	r := []int{1, 2, 0, 4, 3}
	first, _ := row.Rank(r)
	row.Read("zz")
	row.At(12, 5)
	row.Order([]int{1, 0})
	if again, e := row.Rank(r); e != api.OK || again != first {
		t.Errorf("Rank(%v) = %d, then %d, %d", r, first, again, e)
	}
	r[0], r[1] = r[1], r[0]
	if changed, e := row.Rank(r); e != api.OK || changed == first {
		t.Errorf("Rank(%v) = %d, %d, as of another row", r, changed, e)
	}
}
