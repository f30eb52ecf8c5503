package music_test

import (
	"regexp"
	"slices"
	"strings"
	"testing"

	"campanile/api"
	"campanile/call"
	"campanile/method"
	"campanile/music"
	"campanile/row"
)

const signs = "1234567890ET"

// rowsOf reads rows from a text.
func rowsOf(text string) [][]int {
	var rows [][]int
	for _, word := range strings.Fields(text) {
		r, e := row.Read(word)
		if e != api.OK {
			panic(word)
		}
		rows = append(rows, r)
	}
	return rows
}

// allRows of n bells, in order.
func allRows(n int) [][]int {
	var rows [][]int
	for {
		r, e := row.At(n, len(rows))
		if e != api.OK {
			return rows
		}
		rows = append(rows, r)
	}
}

// drawn numbers, the same each time.
func drawn(number uint64) func(most int) int {
	return func(most int) int {
		number = number*6364136223846793005 + 1442695040888963407
		return int(number >> 33 % uint64(most))
	}
}

func drawnRow(next func(int) int, n int) []int {
	r, _ := row.Rounds(n)
	for i := range r {
		k := i + next(n-i)
		r[i], r[k] = r[k], r[i]
	}
	return r
}

// drawnPattern begins with a row, and asks for fewer bells.
func drawnPattern(next func(int) int, n int) string {
	text, _ := row.Text(drawnRow(next, n))
	pattern := []byte(text)
	for i := range pattern {
		if next(3) == 0 {
			pattern[i] = '?'
		}
	}
	if next(3) == 0 {
		return string(pattern)
	}
	from := next(n + 1)
	to := from + next(n+1-from)
	return string(pattern[:from]) + "*" + string(pattern[to:])
}

// bySigns counts rows by their texts, and a pattern as one of texts.
func bySigns(pattern string, rows [][]int) int {
	like := regexp.MustCompile("^" + strings.NewReplacer("?", ".", "*", ".*").Replace(pattern) + "$")
	many := 0
	for _, r := range rows {
		if text, _ := row.Text(r); like.MatchString(text) {
			many++
		}
	}
	return many
}

// firstFault looks at each rune with all that is ahead of it.
func firstFault(n int, text string) api.Errno {
	if n < 1 || n > 12 {
		return api.ErrCount
	}
	runes := []rune(text)
	for i, r := range runes {
		ahead := string(runes[:i])
		switch {
		case !strings.ContainsRune(signs[:n]+"?*", r):
			return api.ErrWord
		case r == '*' && strings.Contains(ahead, "*"):
			return api.ErrWord
		case r != '*' && r != '?' && strings.ContainsRune(ahead, r):
			return api.ErrRow
		}
	}
	stars := strings.Count(text, "*")
	if places := len(runes) - stars; places > n || places < n && stars == 0 {
		return api.ErrCount
	}
	return api.OK
}

// U1.

// right patterns, and how many of all rows are like them.
var right = []struct {
	n    int
	text string
	all  int
}{
	{1, "1", 1},
	{1, "?", 1},
	{1, "*", 1},
	{1, "1*", 1},
	{1, "*1", 1},
	{1, "?*", 1},
	{1, "*?", 1},
	{2, "*", 2},
	{2, "1*", 1},
	{2, "*1", 1},
	{2, "?1", 1},
	{2, "2?", 1},
	{2, "1*2", 1},
	{4, "1234", 1},
	{4, "4321", 1},
	{4, "????", 24},
	{4, "?2??", 6},
	{4, "?23?", 2},
	{4, "123?", 1},
	{4, "*", 24},
	{4, "*4", 6},
	{4, "*34", 2},
	{4, "1*", 6},
	{4, "12*", 2},
	{4, "1*4", 2},
	{4, "12*4", 1},
	{4, "?2*", 6},
	{4, "*2?", 6},
	{4, "1?*", 6},
	{4, "?*?", 24},
	{4, "*?", 24},
	{4, "*1234", 1},
	{4, "1*234", 1},
	{4, "12*34", 1},
	{4, "1234*", 1},
	{4, "*????", 24},
	{4, "??*??", 24},
	{4, "????*", 24},
	{4, "*234", 1},
	{4, "12*3", 1},
	{4, "432*", 1},
	{6, "??3*", 120},
	{9, "*987654321", 1},
	{10, "*0", 362880},
	{11, "E*", 3628800},
	{12, "1234567890ET", 1},
	{12, "TE0987654321", 1},
	{12, "TE0987654321*", 1},
	{12, "*TE0987654321", 1},
	{12, "TE0987*654321", 1},
	{12, "????????????", 479001600},
	{12, "??????*??????", 479001600},
	{12, "*", 479001600},
	{12, "1*", 39916800},
	{12, "*T", 39916800},
	{12, "*ET", 3628800},
	{12, "?1*T?", 3628800},
	{12, "1234567890E?", 1},
	{12, "1234567890*", 2},
}

func TestPatternsThatMayBe(t *testing.T) {
	for _, c := range right {
		if e := music.Check(c.n, c.text); e != api.OK {
			t.Errorf("Check(%d, %q) = %d", c.n, c.text, e)
		}
		if all, e := music.All(c.n, c.text); e != api.OK || all != c.all {
			t.Errorf("All(%d, %q) = %d, %d, want %d", c.n, c.text, all, e, c.all)
		}
	}
}

func TestRowsThatAreLikeAPattern(t *testing.T) {
	for _, c := range []struct{ text, like, unlike string }{
		{"1234", "1234", "1243 2134 4321"},
		{"????", "1234 4321 2413", ""},
		{"*", "1234 4321 2413", ""},
		{"1*", "1234 1432", "2134 4321"},
		{"12*", "1234 1243", "2134 1324 3412"},
		{"*4", "1234 3214", "4321 1243"},
		{"*34", "1234 2134", "1243 3412 4321"},
		{"1*4", "1234 1324", "4321 2314 1243"},
		{"2*13", "2413", "4213 2431 1324"},
		{"?2*", "1234 4213", "2134 1324"},
		{"*2?", "1324 4321", "1342 2134"},
		{"?2?4", "1234 3214", "1243 2134 4231"},
		{"?*?", "1234 4321", ""},
		{"12*34", "1234", "1243 2134"},
		{"*2413", "2413", "1234 3142"},
		{"2413*", "2413", "1234 3142"},
		{"1*", "1 12 123456 1234567890ET", "21 214365"},
		{"*1", "1 21 654321 TE0987654321", "12 123456"},
	} {
		for _, r := range rowsOf(c.like) {
			if many, e := music.Count(len(r), []string{c.text}, [][]int{r}); e != api.OK || !slices.Equal(many, []int{1}) {
				t.Errorf("%q, %v: Count = %v, %d, want 1", c.text, r, many, e)
			}
		}
		for _, r := range rowsOf(c.unlike) {
			if many, e := music.Count(len(r), []string{c.text}, [][]int{r}); e != api.OK || !slices.Equal(many, []int{0}) {
				t.Errorf("%q, %v: Count = %v, %d, want 0", c.text, r, many, e)
			}
		}
	}
}

// texts of so many pieces or fewer.
func texts(pieces []string, long int) []string {
	all, last := []string{""}, []string{""}
	for range long {
		var longer []string
		for _, text := range last {
			for _, piece := range pieces {
				longer = append(longer, text+piece)
			}
		}
		all, last = append(all, longer...), longer
	}
	return all
}

// All short texts: the first fault, or all rows that are like it.
func TestAllShortTexts(t *testing.T) {
	short := texts([]string{"1", "2", "3", "?", "*", "x", "\xff"}, 5)
	for n := range 5 {
		rows, right := allRows(max(n, 1)), 0
		for _, text := range short {
			want := firstFault(n, text)
			if e := music.Check(n, text); e != want {
				t.Errorf("Check(%d, %q) = %d, want %d", n, text, e, want)
			}
			many, e := music.Count(n, []string{text}, rows)
			all, f := music.All(n, text)
			if want != api.OK {
				if e != want || f != want || len(many) != 0 || all != 0 {
					t.Errorf("%d, %q: Count = %v, %d, All = %d, %d, want %d", n, text, many, e, all, f, want)
				}
				continue
			}
			right++
			if like := bySigns(text, rows); e != api.OK || f != api.OK || !slices.Equal(many, []int{like}) || all != like {
				t.Errorf("%d, %q: Count = %v, %d, All = %d, %d, want %d", n, text, many, e, all, f, like)
			}
		}
		if n > 0 && right < 5 {
			t.Errorf("%d bells: %d right patterns only", n, right)
		}
	}
}

func TestDrawnTextsOfSigns(t *testing.T) {
	next := drawn(127)
	kinds := map[api.Errno]int{}
	for range 30000 {
		n := 1 + next(12)
		text := []byte(drawnPattern(next, n))
		for range next(3) {
			text[next(len(text))] = ("*?x" + signs)[next(15)]
		}
		want := firstFault(n, string(text))
		kinds[want]++
		if e := music.Check(n, string(text)); e != want {
			t.Errorf("Check(%d, %q) = %d, want %d", n, text, e, want)
		}
	}
	for _, e := range []api.Errno{api.OK, api.ErrCount, api.ErrRow, api.ErrWord} {
		if kinds[e] < 100 {
			t.Errorf("too few of the kind %d: %v", e, kinds)
		}
	}
}

// U2.

func TestTheDocumentsMusic(t *testing.T) {
	m, _ := method.Read("Plain Bob Minor|6|&x16x16x16,12")
	calls := []api.Call{{Sign: 'p'}, {Sign: 'b', Changes: [][]int{{1, 4}}}, {Sign: 's', Changes: [][]int{{1, 2, 3, 4}}}}
	leads, _ := call.Parse(calls, "3(ppb)")
	rows, e := call.Rows(m, calls, leads)
	if e != api.OK {
		t.Fatal(e)
	}
	if many, e := music.Count(6, strings.Fields("1* *6 ??3*"), rows); e != api.OK || !slices.Equal(many, []int{19, 18, 18}) {
		t.Errorf("Count = %v, %d, want 19 18 18", many, e)
	}
}

func TestCount(t *testing.T) {
	rows := rowsOf("1234 2143 2413 4231 4321 3412 3142 1324 1234")
	for _, c := range []struct {
		texts string
		rows  [][]int
		want  []int
	}{
		{"*", rows, []int{9}},
		{"????", rows, []int{9}},
		{"1234", rows, []int{2}},
		{"1* 2* 3* 4*", rows, []int{3, 2, 2, 2}},
		{"*1 *2 *3 *4", rows, []int{2, 2, 2, 3}},
		{"1*4 1*4 *2? 1*4", rows, []int{3, 3, 2, 3}},
		{"1243 *", rows, []int{0, 9}},
		{"* 1*", nil, []int{0, 0}},
		{"* 1*", [][]int{}, []int{0, 0}},
		{"", rows, nil},
		{"", nil, nil},
	} {
		if many, e := music.Count(4, strings.Fields(c.texts), c.rows); e != api.OK || !slices.Equal(many, c.want) {
			t.Errorf("%q, %d rows: Count = %v, %d, want %v", c.texts, len(c.rows), many, e, c.want)
		}
	}
}

func TestCountsAreThoseBySigns(t *testing.T) {
	next := drawn(131)
	some := 0
	for range 1500 {
		n := 1 + next(12)
		var rows [][]int
		for range next(40) {
			rows = append(rows, drawnRow(next, n))
		}
		var texts []string
		var want []int
		for range next(6) {
			text := drawnPattern(next, n)
			texts, want = append(texts, text), append(want, bySigns(text, rows))
		}
		many, e := music.Count(n, texts, rows)
		if e != api.OK || !slices.Equal(many, want) {
			t.Errorf("Count(%d, %q, %v) = %v, %d, want %v", n, texts, rows, many, e, want)
		}
		for _, k := range many {
			if k > 0 && k < len(rows) {
				some++
			}
		}
	}
	if some < 300 {
		t.Errorf("only %d patterns are like some rows and unlike others", some)
	}
}

// All is Count of all rows there are.
func TestAllIsCountOfAllRows(t *testing.T) {
	next := drawn(137)
	for n := 1; n <= 7; n++ {
		rows := allRows(n)
		for range 40 {
			text := drawnPattern(next, n)
			many, e := music.Count(n, []string{text}, rows)
			if all, f := music.All(n, text); e != api.OK || f != api.OK || !slices.Equal(many, []int{all}) {
				t.Errorf("%d, %q: Count = %v, %d, All = %d, %d", n, text, many, e, all, f)
			}
		}
	}
}
