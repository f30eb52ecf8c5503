package book_test

import (
	"slices"
	"strings"
	"sync"
	"testing"

	"campanile/api"
	"campanile/book"
)

// O3.

func TestLists(t *testing.T) {
	l := []api.Record{
		peal(7, 100, "A", "Bo", "Ada"),
		peal(3, 20, "B", "Ada"),
		peal(7, 3000, "C", "Cy"),
		peal(0, 40000, "D", "Bo"),
		peal(7, 500000, "E", "Ada", "Cy"),
		peal(3, 6, "F", "ada", "É", "Ada B", "Z"),
	}
	b := filled(t, l...)
	pick := func(at ...int) []api.Record {
		var out []api.Record
		for _, i := range at {
			out = append(out, l[i])
		}
		return out
	}
	if got := b.All(); !same(got, pick(3, 1, 5, 0, 2, 4)) {
		t.Errorf("All = %v", got)
	}
	for ringer, want := range map[string][]api.Record{
		"Ada": pick(1, 0, 4), "Bo": pick(3, 0), "Cy": pick(2, 4), "ada": pick(5), "É": pick(5), "Ada B": pick(5), "Z": pick(5),
		"Nobody": nil, "": nil, " ": nil, "Ad": nil, "Ada ": nil, "Ada,Cy": nil, "A": nil, "ADA": nil, "E\u0301": nil, "\xc3": nil, "\xff": nil, strings.Repeat("a", 100000): nil,
	} {
		if got := b.Of(ringer); !same(got, want) {
			t.Errorf("Of(%.20q) = %v, want %v", ringer, got, want)
		}
	}
	names, many := b.Changes()
	if !slices.Equal(names, []string{"Ada", "Ada B", "Bo", "Cy", "Z", "ada", "É"}) || !slices.Equal(many, []int{500120, 6, 40100, 503000, 6, 6, 6}) {
		t.Errorf("Changes = %v, %v", names, many)
	}
}

// Those of one day stay as they were added, however many there are.
func TestOneDay(t *testing.T) {
	var l []api.Record
	for i := range api.MaxRecords {
		l = append(l, peal(5, api.MaxRecords-i, "a", "Ada"))
	}
	b := filled(t, l...)
	holds(t, "all of one day", b, l)
	if !same(b.All(), l) || !same(b.Of("Ada"), l) {
		t.Error("All or Of: another order")
	}
	for i := range l {
		l[i].Day = 1 - i%2
	}
	holds(t, "two days", filled(t, l...), l)
}

func TestDaysInOrder(t *testing.T) {
	var l []api.Record
	for _, day := range []int{1000000, 10, 9, 100, 99, 0, 999999, 1, 11, 2} {
		l = append(l, peal(day, 1, "a", "b"))
	}
	var days []int
	for _, r := range filled(t, l...).All() {
		days = append(days, r.Day)
	}
	if !slices.Equal(days, []int{0, 1, 2, 9, 10, 11, 99, 100, 999999, 1000000}) {
		t.Errorf("All: the days are %v", days)
	}
}

func TestAsManyChangesAsMayBe(t *testing.T) {
	b := &book.Book{}
	for range api.MaxRecords {
		b.Add(peal(1, 1000000, "a", numbered(api.MaxRingers)...))
	}
	names, many := b.Changes()
	if len(names) != api.MaxRingers || !slices.IsSorted(names) || !slices.Equal(many, slices.Repeat([]int{1000000000}, api.MaxRingers)) {
		t.Errorf("Changes = %v, %v", names, many)
	}
}

func TestDrawnBooks(t *testing.T) {
	next := drawn(239)
	for range 80 {
		var b book.Book
		var l []api.Record
		for range next(20) {
			r := drawnRecord(next)
			if next(5) == 0 {
				w := wrongRecords()[next(len(wrongRecords()))]
				if e := b.Add(w.r); e != w.e {
					t.Errorf("%s: Add = %d, want %d", w.why, e, w.e)
				}
			}
			if e := b.Add(r); e != api.OK {
				t.Errorf("Add(%v) = %d", r, e)
			}
			l = append(l, r)
		}
		holds(t, "drawn", &b, l)
	}
}

// X2.

// The names of a record are changed behind the call, and stand behind it in memory.
func TestRecordsHandedInAreNotKept(t *testing.T) {
	var b book.Book
	for _, r := range some() {
		given := r
		given.Ringers = append(slices.Clone(r.Ringers), "Behind", "|")[:len(r.Ringers)]
		if e := b.Add(given); e != api.OK {
			t.Errorf("Add(%v) = %d", r, e)
		}
		if !slices.Equal(given.Ringers[:len(r.Ringers)+2], append(slices.Clone(r.Ringers), "Behind", "|")) {
			t.Errorf("%v became %v", r.Ringers, given.Ringers)
		}
		spoilNames(given.Ringers)
	}
	holds(t, "changed behind the call", &b, some())
	for _, w := range wrongRecords() {
		given := w.r
		given.Ringers = append(slices.Clone(w.r.Ringers), "Behind")[:len(w.r.Ringers)]
		if e := b.Add(given); e != w.e || !slices.Equal(given.Ringers[:len(w.r.Ringers)+1], append(slices.Clone(w.r.Ringers), "Behind")) {
			t.Errorf("%s: Add = %d, want %d; %.100q", w.why, e, w.e, given.Ringers)
		}
	}
	holds(t, "and refused ones", &b, some())
}

func spoilNames(l []string) {
	l = l[:cap(l)]
	for i := range l {
		l[i] = "Spoiled"
	}
}

func TestBytesHandedInAreNotKept(t *testing.T) {
	text := []byte(linesOf(some()...))
	given := append(slices.Clone(text), lineOf(some()[0])...)[:len(text)]
	b, size := book.Open(given)
	if size != len(text) || !slices.Equal(given[:cap(given)][:len(text)+3], append(slices.Clone(text), lineOf(some()[0])[:3]...)) {
		t.Errorf("Open has %d bytes of %d, and %q", size, len(text), given)
	}
	for i := range given[:cap(given)] {
		given[:cap(given)][i] = 'x'
	}
	holds(t, "changed behind the call", b, some())
	// What stands behind a line that is cut off isn't read.
	for end := range text {
		if _, size := book.Open(text[:end:len(text)]); size > end {
			t.Errorf("%d bytes, of which %d are lines", end, size)
		}
	}
}

// What comes out is the caller's: it is written into, up to its capacity.
func TestAnswersAreTheCallers(t *testing.T) {
	b := filled(t, some()...)
	opened, _ := book.Open(b.Bytes())
	for why, b := range map[string]*book.Book{"added": b, "opened": opened} {
		lines := b.Bytes()
		lines = lines[:cap(lines)]
		for i := range lines {
			lines[i] = 'x'
		}
		holds(t, why+": Bytes", b, some())
		for _, list := range []func() []api.Record{b.All, func() []api.Record { return b.Of("Ada") }} {
			got, want := list(), copied(list())
			for i := range got {
				spoilNames(got[i].Ringers)
				if !same(got[i+1:], want[i+1:]) || !same(list(), want) {
					t.Errorf("%s: the ringers of record %d share memory", why, i)
				}
				got[i] = api.Record{}
			}
			clear(got[:cap(got)])
			holds(t, why+": records", b, some())
		}
		names, many := b.Changes()
		spoilNames(names)
		clear(many[:cap(many)])
		holds(t, why+": Changes", b, some())
	}
}

// Books know nothing of each other, even if they come of the same bytes, or one was copied.
func TestBooksAreApart(t *testing.T) {
	text := []byte(linesOf(some()...))
	a, _ := book.Open(text)
	b, _ := book.Open(text)
	a.Add(peal(1, 1, "A", "A"))
	b.Add(peal(2, 2, "B", "B"))
	holds(t, "the first", a, append(some(), peal(1, 1, "A", "A")))
	holds(t, "the second", b, append(some(), peal(2, 2, "B", "B")))
	for many := range 10 {
		first := filled(t, some()[:many%6]...)
		second := *first
		first.Add(peal(1, 1, "A", "A"))
		second.Add(peal(2, 2, "B", "B"))
		holds(t, "one that was copied", first, append(some()[:many%6], peal(1, 1, "A", "A")))
		holds(t, "the copy", &second, append(some()[:many%6], peal(2, 2, "B", "B")))
	}
}

// To ask a book changes nothing: many may do it at once.
func TestManyReadAtOnce(t *testing.T) {
	b := filled(t, some()...)
	var readers sync.WaitGroup
	for range 16 {
		readers.Go(func() {
			for range 20 {
				holds(t, "read by many", b, some())
			}
		})
	}
	readers.Wait()
	holds(t, "read", b, some())
}
