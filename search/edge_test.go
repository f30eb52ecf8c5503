package search_test

import (
	"slices"
	"testing"

	"campanile/api"
)

// Just so many beginnings up to a touch, itself among them, and the touches so far.
func TestBeginningsUpToATouch(t *testing.T) {
	for _, c := range []struct {
		q     quest
		ahead int
	}{
		{asked(5, "5", 24, 44, "", "1", "3", "5", "345", ""), api.MaxPrefixes},
		{asked(5, "3.125", 11, 5, "", "3.5", "3", "1.5", ""), api.MaxPrefixes},
		{asked(5, "5.1", 23, 23, "145", "", "1.12345"), api.MaxPrefixes},
		{asked(6, "x", 18, 43, "", "", "16", "14"), api.MaxPrefixes},
		{asked(5, "1", 19, 44, "", "3", "5", "1", "5"), api.MaxPrefixes + 1},
		{asked(5, "5.345", 19, 10, "5", "", "", "1"), api.MaxPrefixes + 1},
		{asked(6, "14.36", 10, 7, "56.56", "", "x", "16"), api.MaxPrefixes + 1},
		{asked(6, "x", 20, 29, "34", "123456", "", "36", "x"), api.MaxPrefixes + 1},
	} {
		q := c.q
		w := byHand(q, api.MaxPrefixes+1)
		if len(w.ahead) < q.many || w.ahead[q.many-1] != c.ahead || w.all <= api.MaxPrefixes {
			t.Fatalf("the test itself is wrong: %v: %d", q, w.ahead)
		}
		want := w.touches[:q.many]
		if c.ahead > api.MaxPrefixes {
			if got, e := touchesOf(q); e != api.ErrLimit || len(got) != 0 {
				t.Errorf("Touches(%v) = %d touches, %d, want ErrLimit", q, len(got), e)
			}
			q.many, want = q.many-1, want[:q.many-1]
		}
		if got, e := touchesOf(q); e != api.OK || !same(got, want) {
			t.Errorf("Touches(%v) = %v, %d, want %v", q, got, e, want)
		}
		// One touch more is behind too many beginnings, or isn't there.
		q.many++
		if got, e := touchesOf(q); e != api.ErrLimit || len(got) != 0 {
			t.Errorf("Touches(%v) = %d touches, %d, want ErrLimit", q, len(got), e)
		}
	}
}

// Just so many beginnings in all, and fewer touches than are asked for.
func TestBeginningsInAll(t *testing.T) {
	for _, c := range []struct {
		q       quest
		all     int
		touches int
	}{
		{asked(5, "123.5.5", 21, 29, "1.5", "", "345.5"), api.MaxPrefixes, 28},
		{asked(5, "145.5.5", 24, 1, "3.5", "5", "", "123.5", "", "5.5"), api.MaxPrefixes, 0},
		{asked(6, "34.56", 8, api.MaxFound, "16", "36", "", "36.12"), api.MaxPrefixes, 0},
		{asked(6, "36.3456x", 16, 17, "", "56.16"), api.MaxPrefixes + 1, 16},
		{asked(6, "3456.36", 9, 1, "14.56", "34", "56.12", ""), api.MaxPrefixes + 1, 0},
	} {
		w := byHand(c.q, api.MaxPrefixes+5)
		if w.all != c.all || len(w.touches) != c.touches || c.q.many <= c.touches {
			t.Fatalf("the test itself is wrong: %v: %d beginnings, %d touches", c.q, w.all, len(w.touches))
		}
		for _, many := range []int{c.q.many, api.MaxFound} {
			q := c.q
			q.many = many
			want, e := told(w, many)
			if e == api.OK != (c.all == api.MaxPrefixes) {
				t.Fatalf("the test itself is wrong: %v: %d", q, e)
			}
			if got, f := touchesOf(q); f != e || !same(got, want) {
				t.Errorf("Touches(%v) = %v, %d, want %v, %d", q, got, f, want, e)
			}
		}
		// As many as there are: what is met behind the last one doesn't matter.
		if q := c.q; c.touches > 0 {
			q.many = c.touches
			want, e := told(w, q.many)
			if got, f := touchesOf(q); f != e || e != api.OK || !same(got, want) {
				t.Errorf("Touches(%v) = %v, %d, want %v, %d", q, got, f, want, e)
			}
		}
	}
}

// hunts: so many bells side by side, then so many others, go to and fro, in leads of two changes; what doesn't lead on ends with the first of them again.
func hunts(leads int, on, nowhere int, blocks ...int) quest {
	to, fro, at := []int{}, []int{}, 0
	for _, many := range blocks {
		if many%2 == 1 {
			to, fro = append(to, at+many), append(fro, at+1)
		} else {
			fro = append(fro, at+1, at+many)
		}
		at += many
	}
	q := quest{m: api.Method{Name: "Tested", Bells: at, Changes: [][]int{to, fro}}, leads: leads, many: api.MaxFound}
	for i := range on + nowhere {
		c := api.Call{Sign: rune('a' + i)}
		if i >= on {
			c.Changes = [][]int{to}
		}
		q.calls = append(q.calls, c)
	}
	return q
}

// All calls do the same, and come round behind a course: so all lists are true, up to that.
func TestCallsThatDoTheSame(t *testing.T) {
	for _, c := range []struct {
		calls, course int
		blocks        []int
	}{
		{1, 3, []int{3}},
		{2, 3, []int{3}},
		{2, 12, []int{12}},
		{5, 6, []int{6}},
		{8, 4, []int{4}},
		{2, 14, []int{7, 2}},
		{8, 5, []int{5}},
		{1, api.MaxSearch, []int{8, 3}},
		{2, api.MaxSearch, []int{8, 3}},
		{api.MaxCalls, api.MaxSearch, []int{8, 3}},
	} {
		var want [][]int
		for number := range min(api.MaxFound, power(c.calls, min(c.course, 6))) {
			want = append(want, digits(number, c.calls, c.course))
		}
		q := hunts(c.course, c.calls, 0, c.blocks...)
		if got, e := touchesOf(q); e != api.OK || !same(got, want) {
			t.Errorf("%d calls, %d leads: Touches = %v, %d, want %v", c.calls, c.course, got, e, want)
		}
		for _, leads := range []int{c.course - 1, min(c.course+1, api.MaxSearch)} {
			if leads == c.course {
				continue
			}
			e := api.OK
			if all(c.calls, 0, min(leads, c.course)) > api.MaxPrefixes {
				e = api.ErrLimit
			}
			q.leads = leads
			if got, f := touchesOf(q); f != e || len(got) != 0 {
				t.Errorf("%d calls, %d leads: Touches = %v, %d, want none, %d", c.calls, leads, got, f, e)
			}
		}
	}
}

// A beginning whose last row was there ahead is true, and is met; but none that begins with it.
func TestBeginningsThatLeadNowhere(t *testing.T) {
	for _, c := range []struct {
		on, nowhere, leads int
		e                  api.Errno
	}{
		{5, 0, 6, api.OK},
		{5, 1, 6, api.ErrLimit},
		{5, 3, 6, api.ErrLimit},
		{5, 3, 5, api.OK},
		{4, 2, 6, api.OK},
		{4, 4, 6, api.OK},
		{6, 2, 5, api.OK},
		{6, 2, 6, api.ErrLimit},
		{7, 0, 5, api.OK},
		{7, 1, 5, api.ErrLimit},
	} {
		q := hunts(c.leads, c.on, c.nowhere, 7)
		if many := all(c.on, c.nowhere, c.leads); many > api.MaxPrefixes != (c.e == api.ErrLimit) {
			t.Fatalf("the test itself is wrong: %v: %d", c, many)
		}
		if got, e := touchesOf(q); e != c.e || len(got) != 0 {
			t.Errorf("%v: Touches = %v, %d, want none, %d", c, got, e, c.e)
		}
	}
}

// all beginnings of so many leads, if so many calls lead on and so many nowhere.
func all(on, nowhere, leads int) int {
	many, last := 0, 1
	for range leads {
		many = min(many+last*(on+nowhere), api.MaxPrefixes+1)
		last = min(last*on, api.MaxPrefixes+1)
	}
	return many
}

func power(base, exponent int) int {
	p := 1
	for range exponent {
		p *= base
	}
	return p
}

// digits of a number, so many.
func digits(number, base, many int) []int {
	var l []int
	for range many {
		l = append(l, number%base)
		number /= base
	}
	slices.Reverse(l)
	return l
}
