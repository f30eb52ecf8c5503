package music_test

import (
	"math"
	"reflect"
	"slices"
	"strings"
	"testing"

	"campanile/api"
	"campanile/music"
	"campanile/row"
)

var wrong = []struct {
	why  string
	n    int
	text string
	e    api.Errno
}{
	{"no bells", 0, "*", api.ErrCount},
	{"no bells, an empty pattern", 0, "", api.ErrCount},
	{"one bell too many", 13, "*", api.ErrCount},
	{"one bell too many, as many places", 13, strings.Repeat("?", 13), api.ErrCount},
	{"fewer bells than none", -1, "*", api.ErrCount},
	{"the least number", math.MinInt, "*", api.ErrCount},
	{"the greatest number", math.MaxInt, "*", api.ErrCount},
	{"an empty pattern", 4, "", api.ErrCount},
	{"an empty pattern of one bell", 1, "", api.ErrCount},
	{"one place fewer", 4, "123", api.ErrCount},
	{"one place fewer, of any bells", 12, strings.Repeat("?", 11), api.ErrCount},
	{"one place more", 4, "????1", api.ErrCount},
	{"one place more, of all bells", 4, "1234?", api.ErrCount},
	{"one place more, of twelve", 12, strings.Repeat("?", 13), api.ErrCount},
	{"one place more, of one bell", 1, "1?", api.ErrCount},
	{"one place more, a star ahead", 4, "*1234?", api.ErrCount},
	{"one place more, a star behind", 4, "?????*", api.ErrCount},
	{"one place more, a star between", 4, "12*3?4", api.ErrCount},
	{"one place more, a star, twelve bells", 12, "1234567890E*T?", api.ErrCount},
	{"far too many places", 4, strings.Repeat("?", 100000), api.ErrCount},
	{"far too many places and a star", 4, strings.Repeat("?", 100000) + "*", api.ErrCount},
	{"a second star", 4, "*1*", api.ErrWord},
	{"a second star at once", 4, "**", api.ErrWord},
	{"a second star, as many places as bells", 4, "12*34*", api.ErrWord},
	{"a third star", 4, "***", api.ErrWord},
	{"a bell that isn't there", 4, "5*", api.ErrWord},
	{"a bell that isn't there, as many places", 4, "1235", api.ErrWord},
	{"the tenth of nine", 9, "*0", api.ErrWord},
	{"the eleventh of ten", 10, "*E", api.ErrWord},
	{"the twelfth of eleven", 11, "*T", api.ErrWord},
	{"a bell that isn't there, twice", 4, "55*", api.ErrWord},
	{"a bell that is there already", 4, "11*", api.ErrRow},
	{"a bell that is there already, ahead of a star", 4, "1*1", api.ErrRow},
	{"a bell that is there already, as many places", 4, "1231", api.ErrRow},
	{"the last bell that is there already", 12, "T*T", api.ErrRow},
	{"a sign that is none", 4, "x*", api.ErrWord},
	{"small letters", 12, "*e", api.ErrWord},
	{"another small letter", 12, "*t", api.ErrWord},
	{"a blank", 4, "12 34", api.ErrWord},
	{"a blank ahead", 4, " *", api.ErrWord},
	{"a newline", 4, "*\n", api.ErrWord},
	{"a nought byte", 4, "*\x00", api.ErrWord},
	{"a digit of another script", 4, "*１", api.ErrWord},
	{"a star of another kind", 4, "＊", api.ErrWord},
	{"a rune of more bytes than places", 4, "é", api.ErrWord},
	{"a byte that is no rune", 4, "*\xff", api.ErrWord},
	{"a byte that is no rune, ahead", 4, "\x80*", api.ErrWord},
	{"a rune that is cut off", 4, "1*\xe2\x82", api.ErrWord},
	{"a sign in too many bytes", 4, "*\xc0\xb1", api.ErrWord},
	{"half of a pair", 4, "*\xed\xa0\x80", api.ErrWord},
	{"the rune for what is none", 4, "*\uFFFD", api.ErrWord},

	{"no bells, a sign that is none", 0, "x", api.ErrCount},
	{"too many bells, a bell twice", 13, "11", api.ErrCount},
	{"too many bells, no rune", 13, "\xff", api.ErrCount},
	{"a sign that is none, then a bell twice", 4, "x11", api.ErrWord},
	{"a bell twice, then a sign that is none", 4, "11x", api.ErrRow},
	{"a bell twice, then no rune", 4, "22\xff", api.ErrRow},
	{"no rune, then a bell twice", 4, "\xff22", api.ErrWord},
	{"a bell twice, then a second star", 4, "*11*", api.ErrRow},
	{"a second star, then a bell twice", 4, "**11", api.ErrWord},
	{"too many places, then a sign that is none", 4, "??????x", api.ErrWord},
	{"too many places, then a bell twice", 4, "??????11", api.ErrRow},
	{"too many places, then a bell that was there ahead", 4, "1?????1", api.ErrRow},
	{"too many places, then a bell twice, twelve bells", 12, strings.Repeat("?", 40) + "T?T", api.ErrRow},
	{"too many places, then a second star", 4, "??????**", api.ErrWord},
	{"too many places, then a bell that isn't there", 4, "??????5", api.ErrWord},
	{"far too many places, then no rune", 4, strings.Repeat("?", 100000) + "\xff", api.ErrWord},
	{"too few places, then a sign that is none", 4, "1x", api.ErrWord},
	{"too few places, a bell twice", 4, "11", api.ErrRow},
}

func TestPatternsAreRefused(t *testing.T) {
	for _, c := range wrong {
		if e := music.Check(c.n, c.text); e != c.e {
			t.Errorf("%s: Check = %d, want %d", c.why, e, c.e)
		}
		if all, e := music.All(c.n, c.text); e != c.e || all != 0 {
			t.Errorf("%s: All = %d, %d, want %d", c.why, all, e, c.e)
		}
		if many, e := music.Count(c.n, []string{c.text}, nil); e != c.e || len(many) != 0 {
			t.Errorf("%s: Count = %v, %d, want %d", c.why, many, e, c.e)
		}
		if c.n < 1 || c.n > api.MaxBells {
			continue
		}
		// The first wrong one is told, whatever stands around it.
		rounds, _ := row.Rounds(c.n)
		for _, texts := range [][]string{{"*", c.text}, {c.text, "x"}, {c.text, "11"}, {c.text, ""}, {"*", "*", c.text, "*"}} {
			if many, e := music.Count(c.n, texts, [][]int{rounds}); e != c.e || len(many) != 0 {
				t.Errorf("%s: Count of %d = %v, %d, want %d", c.why, len(texts), many, e, c.e)
			}
		}
	}
}

// wrongRows are of four bells.
func wrongRows() []struct {
	why  string
	rows [][]int
	e    api.Errno
} {
	good := []int{0, 1, 2, 3}
	return []struct {
		why  string
		rows [][]int
		e    api.Errno
	}{
		{"no bells", [][]int{nil}, api.ErrCount},
		{"no bells, behind others", [][]int{good, good, {}}, api.ErrCount},
		{"a bell fewer", [][]int{good, {0, 1, 2}}, api.ErrCount},
		{"a bell more", [][]int{{0, 1, 2, 3, 4}, good}, api.ErrCount},
		{"too many bells", [][]int{{0, 1, 2, 3, 4, 5, 6, 7, 8, 9, 10, 11, 12}}, api.ErrCount},
		{"a bell twice", [][]int{good, {0, 1, 1, 3}}, api.ErrRow},
		{"a bell too great", [][]int{{0, 1, 2, 4}}, api.ErrRow},
		{"a bell below 0", [][]int{{0, -1, 2, 3}}, api.ErrRow},
		{"the least number", [][]int{{0, math.MinInt, 2, 3}}, api.ErrRow},
		{"the greatest number", [][]int{{0, 1, 2, math.MaxInt}}, api.ErrRow},
		{"no row, and a bell fewer", [][]int{{0, 1, 1}}, api.ErrRow},
		{"no row, then a bell fewer", [][]int{{0, 1, 2, 2}, {0, 1, 2}}, api.ErrRow},
		{"a bell fewer, then no row", [][]int{{0, 1, 2}, {0, 1, 2, 2}}, api.ErrCount},
		{"no row among the last", append(slices.Repeat([][]int{good}, api.MaxRows), []int{3, 2, 1, 1}), api.ErrRow},
	}
}

func TestRowsAreRefused(t *testing.T) {
	for _, c := range wrongRows() {
		for _, texts := range [][]string{{"*"}, {"1*", "*4", "????"}, nil} {
			if many, e := music.Count(4, texts, c.rows); e != c.e || len(many) != 0 {
				t.Errorf("%s: Count of %d = %v, %d, want %d", c.why, len(texts), many, e, c.e)
			}
		}
		// What Check says of patterns comes ahead of what is said of rows.
		for text, want := range map[string]api.Errno{"x": api.ErrWord, "11": api.ErrRow, "123": api.ErrCount} {
			if many, e := music.Count(4, []string{"*", text}, c.rows); e != want || len(many) != 0 {
				t.Errorf("%s, %q: Count = %v, %d, want %d", c.why, text, many, e, want)
			}
		}
	}
}

// Without patterns n is held against rows alone.
func TestNoPatternAtAll(t *testing.T) {
	for _, n := range []int{math.MinInt, -1, 0, 1, 3, 4, 12, 13, math.MaxInt} {
		if many, e := music.Count(n, nil, nil); e != api.OK || len(many) != 0 {
			t.Errorf("%d bells: Count of no rows = %v, %d", n, many, e)
		}
		want := api.ErrCount
		if n == 4 {
			want = api.OK
		}
		if many, e := music.Count(n, []string{}, [][]int{{3, 2, 1, 0}}); e != want || len(many) != 0 {
			t.Errorf("%d bells: Count = %v, %d, want %d", n, many, e, want)
		}
	}
}

func TestAsManyPatternsAsMayBe(t *testing.T) {
	rows := [][]int{{0, 1}, {1, 0}, {0, 1}}
	for many := range 51 {
		got, e := music.Count(2, slices.Repeat([]string{"1*"}, many), rows)
		if e != api.OK || !slices.Equal(got, slices.Repeat([]int{2}, many)) {
			t.Errorf("%d patterns: Count = %v, %d", many, got, e)
		}
	}
	for _, many := range []int{51, 52, 1000} {
		for _, n := range []int{2, 0, 13} {
			for _, text := range []string{"1*", "x", "", "11"} {
				for _, l := range [][][]int{rows, nil, {{0, 0}}} {
					if got, e := music.Count(n, slices.Repeat([]string{text}, many), l); e != api.ErrLimit || len(got) != 0 {
						t.Errorf("%d patterns %q: Count = %v, %d, want ErrLimit", many, text, got, e)
					}
				}
			}
		}
	}
}

func TestAsManyRowsAsMayBe(t *testing.T) {
	for _, many := range []int{api.MaxRows - 1, api.MaxRows, api.MaxRows + 1} {
		rows := slices.Repeat([][]int{{1, 0, 2}}, many)
		got, e := music.Count(3, slices.Repeat([]string{"2*", "1*"}, 25), rows)
		if e != api.OK || !slices.Equal(got, slices.Repeat([]int{many, 0}, 25)) {
			t.Errorf("%d rows: Count = %v, %d", many, got, e)
		}
	}
	for _, r := range [][]int{{1, 0, 2}, {0, 1}, {0, 0, 0}, nil} {
		rows := slices.Repeat([][]int{r}, api.MaxRows+2)
		for _, texts := range [][]string{{"2*"}, nil, {"x"}, {"11"}} {
			for _, n := range []int{3, 0} {
				if got, e := music.Count(n, texts, rows); e != api.ErrLimit || len(got) != 0 {
					t.Errorf("too many rows of %v, %q: Count = %v, %d, want ErrLimit", r, texts, got, e)
				}
			}
		}
	}
}

// X1, X2.

type asked struct {
	n     int
	texts []string
	rows  [][]int
}

func several() []asked {
	next := drawn(139)
	var l []asked
	for range 60 {
		q := asked{n: 1 + next(12)}
		for range next(8) {
			q.texts = append(q.texts, drawnPattern(next, q.n))
		}
		for range next(20) {
			q.rows = append(q.rows, drawnRow(next, q.n))
		}
		l = append(l, q)
	}
	for _, c := range wrong {
		l = append(l, asked{c.n, []string{"*", c.text}, [][]int{{0, 1, 2, 3}}})
	}
	for _, c := range wrongRows() {
		l = append(l, asked{4, []string{"*"}, c.rows})
	}
	return l
}

// roomy has more behind its lists in memory.
func roomy(q asked) asked {
	given := asked{n: q.n, texts: append(slices.Clone(q.texts), "x", "11")[:len(q.texts)]}
	for _, r := range q.rows {
		given.rows = append(given.rows, append(slices.Clone(r), 77, 78)[:len(r)])
	}
	given.rows = append(given.rows, []int{79})[:len(q.rows)]
	return given
}

// untouched: has a roomy one still what it had, and behind its lists too?
func untouched(given, q asked) bool {
	is := slices.Equal(given.texts[:len(q.texts)+2], append(slices.Clone(q.texts), "x", "11"))
	for i, r := range q.rows {
		is = is && slices.Equal(given.rows[i][:len(r)+2], append(slices.Clone(r), 77, 78))
	}
	return is && slices.Equal(given.rows[:len(q.rows)+1][len(q.rows)], []int{79})
}

func TestListsHandedInStay(t *testing.T) {
	for _, q := range several() {
		given := roomy(q)
		got, e := music.Count(given.n, given.texts, given.rows)
		if !untouched(given, q) {
			t.Errorf("%v became %v", q, given)
		}
		// What stands behind a list is not read.
		if want, f := music.Count(q.n, q.texts, q.rows); e != f || !slices.Equal(got, want) {
			t.Errorf("%v, with more behind it: %v, %d, want %v, %d", q, got, e, want, f)
		}
		// Nor is it kept, or what is answered.
		again, f := music.Count(given.n, given.texts, given.rows)
		got = got[:cap(got)]
		for i := range got {
			got[i] = -5
		}
		want, _ := music.Count(q.n, q.texts, q.rows)
		if e != f || !slices.Equal(again, want) || !untouched(given, q) {
			t.Errorf("%v: an answer shares memory", q)
		}
	}
}

func TestAnswersHangOnArgumentsAlone(t *testing.T) {
	type answer struct {
		many, all []int
		e         []api.Errno
	}
	answered := func(q asked) answer {
		many, e := music.Count(q.n, q.texts, q.rows)
		a := answer{many: many, e: []api.Errno{e}}
		for _, text := range q.texts {
			all, e := music.All(q.n, text)
			a.all, a.e = append(a.all, all), append(a.e, e, music.Check(q.n, text))
		}
		return a
	}
	l := several()
	var first []answer
	for _, q := range l {
		first = append(first, answered(q))
	}
	for i := len(l) - 1; i >= 0; i-- {
		if again := answered(l[i]); !reflect.DeepEqual(again, first[i]) {
			t.Errorf("%v: %v, then %v", l[i], first[i], again)
		}
	}
}
