package book_test

import (
	"fmt"
	"math/big"
	"slices"
	"strconv"
	"strings"
	"testing"

	"campanile/api"
	"campanile/book"
)

func peal(day, changes int, method string, ringers ...string) api.Record {
	return api.Record{Day: day, Changes: changes, Method: method, Ringers: ringers}
}

func sameRecord(a, b api.Record) bool {
	return a.Day == b.Day && a.Changes == b.Changes && a.Method == b.Method && slices.Equal(a.Ringers, b.Ringers)
}

func same(a, b []api.Record) bool { return slices.EqualFunc(a, b, sameRecord) }

func copied(l []api.Record) []api.Record {
	var out []api.Record
	for _, r := range l {
		r.Ringers = slices.Clone(r.Ringers)
		out = append(out, r)
	}
	return out
}

// filled is a book with these records.
func filled(t *testing.T, l ...api.Record) *book.Book {
	t.Helper()
	b := &book.Book{}
	for _, r := range l {
		if e := b.Add(r); e != api.OK {
			t.Fatalf("Add(%v) = %d", r, e)
		}
	}
	return b
}

// checked is a text with its check, found by great numbers, and a newline.
func checked(text string) string {
	h, low := big.NewInt(5381), big.NewInt(1<<32)
	for _, c := range []byte(text) {
		h.Mul(h, big.NewInt(33))
		h.Xor(h, big.NewInt(int64(c)))
		h.Mod(h, low)
	}
	return text + "#" + h.String() + "\n"
}

// lineOf is how a record is told.
func lineOf(r api.Record) string {
	return checked(fmt.Sprintf("%d|%d|%s|%s", r.Day, r.Changes, r.Method, strings.Join(r.Ringers, ",")))
}

func linesOf(l ...api.Record) string {
	var text strings.Builder
	for _, r := range l {
		text.WriteString(lineOf(r))
	}
	return text.String()
}

// byDay takes one record behind the other: of those that are left the first one of the least day.
func byDay(l []api.Record) []api.Record {
	var out []api.Record
	for left := slices.Clone(l); len(left) > 0; {
		first := 0
		for i, r := range left {
			if r.Day < left[first].Day {
				first = i
			}
		}
		out = append(out, left[first])
		left = slices.Delete(left, first, first+1)
	}
	return out
}

func withRinger(l []api.Record, ringer string) []api.Record {
	var out []api.Record
	for _, r := range l {
		if slices.Contains(r.Ringers, ringer) {
			out = append(out, r)
		}
	}
	return out
}

// rung: names and changes, by going through all records for each name.
func rung(l []api.Record) ([]string, []int) {
	var names []string
	for _, r := range l {
		for _, ringer := range r.Ringers {
			if !slices.Contains(names, ringer) {
				names = append(names, ringer)
			}
		}
	}
	slices.Sort(names)
	var many []int
	for _, name := range names {
		all := 0
		for _, r := range l {
			if slices.Contains(r.Ringers, name) {
				all += r.Changes
			}
		}
		many = append(many, all)
	}
	return names, many
}

// holds: does a book answer by all its calls just what these records ask for?
func holds(t *testing.T, why string, b *book.Book, l []api.Record) {
	t.Helper()
	if got, want := string(b.Bytes()), linesOf(l...); got != want {
		t.Errorf("%s: Bytes = %q, want %q", why, got, want)
	}
	inOrder := byDay(l)
	if got := b.All(); !same(got, inOrder) {
		t.Errorf("%s: All = %v, want %v", why, got, inOrder)
	}
	names, many := rung(l)
	if n, m := b.Changes(); !slices.Equal(n, names) || !slices.Equal(m, many) {
		t.Errorf("%s: Changes = %v, %v, want %v, %v", why, n, m, names, many)
	}
	for _, name := range append(names, "Nobody", "", "\xff") {
		if got, want := b.Of(name), withRinger(inOrder, name); !same(got, want) {
			t.Errorf("%s: Of(%q) = %v, want %v", why, name, got, want)
		}
	}
}

// drawn numbers, the same each time.
func drawn(number uint64) func(most int) int {
	return func(most int) int {
		number = number*6364136223846793005 + 1442695040888963407
		return int(number >> 33 % uint64(most))
	}
}

func drawnRecord(next func(int) int) api.Record {
	names := []string{"Ada", "Bo", "Cy Öz", "ada", "Ad", "Ada B", "0", "É", "Łódź", "z", "Zoë", "ž"}
	for i := range names {
		k := i + next(len(names)-i)
		names[i], names[k] = names[k], names[i]
	}
	methods := []string{"Plain Bob", "Étoile", "a", "8", strings.Repeat("ž", api.MaxName)}
	return peal(next(5), 1+next(6000), methods[next(len(methods))], names[:1+next(len(names))]...)
}

func drawnRecords(next func(int) int, many int) []api.Record {
	var l []api.Record
	for range many {
		l = append(l, drawnRecord(next))
	}
	return l
}

// some records that are unlike, of which several are of one day.
func some() []api.Record {
	return []api.Record{
		peal(7, 5040, "Plain Bob", "Ada", "Bo"),
		peal(0, 1, "a", "b"),
		peal(1000000, 1000000, "Étoile 8", "Cy Öz", "Łódź", "Ada"),
		peal(7, 720, "Plain Bob", "Bo"),
		peal(3, 10, strings.Repeat("ž", api.MaxName), "Ada", "A", "B", "C", "D", "E", "F", "G", "H", "I", "J", "K"),
		peal(7, 100, "A B", "Bo", "Ada"),
	}
}

// numbered: so many ringers.
func numbered(many int) []string {
	var l []string
	for i := range many {
		l = append(l, "R"+strconv.Itoa(i))
	}
	return l
}

// full is a book into which nothing more goes.
func full(t *testing.T) (*book.Book, []api.Record) {
	t.Helper()
	var l []api.Record
	for i := range api.MaxRecords {
		l = append(l, peal(i%7, 1+i, "Plain Bob", "Ada", "R"+strconv.Itoa(i)))
	}
	return filled(t, l...), l
}
