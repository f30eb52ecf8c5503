package book_test

import (
	"math"
	"slices"
	"strings"
	"testing"

	"campanile/api"
	"campanile/book"
)

// O1.

func TestTheZeroBook(t *testing.T) {
	var b book.Book
	if n, m := b.Changes(); len(b.Bytes()) != 0 || len(b.All()) != 0 || len(b.Of("Ada")) != 0 || len(b.Of("")) != 0 || len(n) != 0 || len(m) != 0 {
		t.Errorf("%q, %v, %v, %v, %v: a book is empty at first", b.Bytes(), b.All(), b.Of("Ada"), n, m)
	}
	holds(t, "empty", &b, nil)
	if e := b.Add(some()[0]); e != api.OK {
		t.Errorf("Add = %d", e)
	}
	holds(t, "one record", &b, some()[:1])
}

func TestAdd(t *testing.T) {
	var b book.Book
	for i, r := range some() {
		if e := b.Add(r); e != api.OK {
			t.Errorf("Add(%v) = %d", r, e)
		}
		holds(t, "so far", &b, some()[:i+1])
	}
	// The same record may come again.
	if e := b.Add(some()[0]); e != api.OK {
		t.Errorf("Add = %d", e)
	}
	holds(t, "one twice", &b, append(some(), some()[0]))
}

type wrong struct {
	why string
	r   api.Record
	e   api.Errno
}

func wrongRecords() []wrong {
	r := func(day, changes int, method string, ringers ...string) api.Record {
		return peal(day, changes, method, ringers...)
	}
	long := strings.Repeat("a", api.MaxName+1)
	return []wrong{
		{"nothing at all", api.Record{}, api.ErrValue},
		{"a day below 0", r(-1, 5040, "a", "b"), api.ErrValue},
		{"a day too great", r(1000001, 5040, "a", "b"), api.ErrValue},
		{"the least day", r(math.MinInt, 5040, "a", "b"), api.ErrValue},
		{"the greatest day", r(math.MaxInt, 5040, "a", "b"), api.ErrValue},
		{"no changes", r(7, 0, "a", "b"), api.ErrValue},
		{"fewer than no changes", r(7, -1, "a", "b"), api.ErrValue},
		{"one change too many", r(7, 1000001, "a", "b"), api.ErrValue},
		{"the least number of changes", r(7, math.MinInt, "a", "b"), api.ErrValue},
		{"the greatest number of changes", r(7, math.MaxInt, "a", "b"), api.ErrValue},
		{"no name of a method", r(7, 1, "", "b"), api.ErrName},
		{"a blank name", r(7, 1, " ", "b"), api.ErrName},
		{"a blank ahead", r(7, 1, " a", "b"), api.ErrName},
		{"a blank behind", r(7, 1, "a ", "b"), api.ErrName},
		{"a bar", r(7, 1, "a|b", "b"), api.ErrName},
		{"a comma", r(7, 1, "a,b", "b"), api.ErrName},
		{"a check's sign", r(7, 1, "a#b", "b"), api.ErrName},
		{"a newline", r(7, 1, "a\nb", "b"), api.ErrName},
		{"a name too long", r(7, 1, long, "b"), api.ErrName},
		{"a byte that is no rune", r(7, 1, "a\xff", "b"), api.ErrName},
		{"the rune for what is none", r(7, 1, "a\ufffd", "b"), api.ErrName},
		{"a sign of multiplying", r(7, 1, "a×b", "b"), api.ErrName},
		{"no ringer", r(7, 1, "a"), api.ErrCount},
		{"an empty list of ringers", api.Record{Day: 7, Changes: 1, Method: "a", Ringers: []string{}}, api.ErrCount},
		{"one ringer too many", r(7, 1, "a", numbered(api.MaxRingers+1)...), api.ErrCount},
		{"far too many ringers", r(7, 1, "a", numbered(5000)...), api.ErrCount},
		{"a ringer without a name", r(7, 1, "a", ""), api.ErrName},
		{"a ringer with a comma", r(7, 1, "a", "b,c"), api.ErrName},
		{"a ringer with a bar", r(7, 1, "a", "b|c"), api.ErrName},
		{"a ringer with a check's sign", r(7, 1, "a", "b#"), api.ErrName},
		{"a ringer with a newline", r(7, 1, "a", "b\n"), api.ErrName},
		{"a ringer with a blank ahead", r(7, 1, "a", "b", " c"), api.ErrName},
		{"a ringer's name too long", r(7, 1, "a", "b", long), api.ErrName},
		{"a ringer that is no runes", r(7, 1, "a", "b", "c", "\xc3"), api.ErrName},
		{"the last one of twelve", r(7, 1, "a", append(numbered(11), "÷")...), api.ErrName},
		{"a ringer twice", r(7, 1, "a", "b", "b"), api.ErrDouble},
		{"a ringer twice, others between", r(7, 1, "a", "b", "c", "d", "b"), api.ErrDouble},
		{"the last one of twelve again", r(7, 1, "a", append(numbered(11), "R0")...), api.ErrDouble},
		{"the last two of twelve", r(7, 1, "a", append(numbered(11), "R10")...), api.ErrDouble},

		{"a wrong day, and all else", r(-1, 0, "", numbered(13)...), api.ErrValue},
		{"a right day, and nothing else", r(7, 0, "", numbered(13)...), api.ErrValue},
		{"a wrong day, and a wrong name", r(-1, 1, "", "b"), api.ErrValue},
		{"wrong changes, and no ringer", r(7, 0, "a"), api.ErrValue},
		{"a wrong name, and no ringer", r(7, 1, ""), api.ErrName},
		{"a wrong name, and one ringer too many", r(7, 1, "", numbered(13)...), api.ErrName},
		{"a wrong name, and a ringer twice", r(7, 1, "", "b", "b"), api.ErrName},
		{"one ringer too many, all wrong", r(7, 1, "a", slices.Repeat([]string{""}, 13)...), api.ErrCount},
		{"one ringer too many, all the same", r(7, 1, "a", slices.Repeat([]string{"b"}, 13)...), api.ErrCount},
		{"a ringer twice, then a wrong one", r(7, 1, "a", "b", "b", ""), api.ErrDouble},
		{"a wrong ringer, then one twice", r(7, 1, "a", "", "b", "b"), api.ErrName},
		{"a wrong ringer between", r(7, 1, "a", "b", "", "b"), api.ErrName},
		{"a wrong ringer twice", r(7, 1, "a", "", ""), api.ErrName},
	}
}

// Behind an error the book is as it was.
func TestRecordsAreRefused(t *testing.T) {
	for _, w := range wrongRecords() {
		var empty book.Book
		if e := empty.Add(w.r); e != w.e {
			t.Errorf("%s: Add = %d, want %d", w.why, e, w.e)
		}
		holds(t, w.why, &empty, nil)
		b := filled(t, some()...)
		if e := b.Add(w.r); e != w.e {
			t.Errorf("%s: Add to others = %d, want %d", w.why, e, w.e)
		}
		holds(t, w.why, b, some())
		// And what comes later stands where it should.
		if e := b.Add(some()[1]); e != api.OK {
			t.Errorf("%s: Add behind it = %d", w.why, e)
		}
		holds(t, w.why, b, append(some(), some()[1]))
	}
}

func TestRecordsAtTheEdge(t *testing.T) {
	longest := strings.Repeat("ž", api.MaxName)
	var all []api.Record
	for _, r := range []api.Record{
		peal(0, 1, "a", "b"),
		peal(1000000, 1000000, "a", "b"),
		peal(999999, 999999, "a", "b"),
		peal(1, 2, "a", "a"),
		peal(7, 1, longest, "b"),
		peal(7, 1, "a", longest),
		peal(7, 1, "a b  c", "d  e"),
		peal(7, 1, "0", "00", "000"),
		peal(7, 1, "a", numbered(api.MaxRingers)...),
		peal(7, 1, "a", "b", "B", "b b", "bb", "é", "É", "e"),
		peal(7, 1, "À", "ž", "Ö"),
	} {
		e := (&book.Book{}).Add(r)
		if e != api.OK {
			t.Errorf("Add(%v) = %d", r, e)
		}
		all = append(all, r)
	}
	holds(t, "at the edge", filled(t, all...), all)
}

func TestAsManyRecordsAsMayBe(t *testing.T) {
	b, l := full(t)
	holds(t, "full", b, l)
	for _, r := range some() {
		if e := b.Add(r); e != api.ErrLimit {
			t.Errorf("one record more: Add = %d, want ErrLimit", e)
		}
	}
	// That it is full is told last.
	for _, w := range wrongRecords() {
		if e := b.Add(w.r); e != w.e {
			t.Errorf("%s: Add to a full book = %d, want %d", w.why, e, w.e)
		}
	}
	holds(t, "full still", b, l)
}
