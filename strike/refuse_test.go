package strike_test

import (
	"math"
	"slices"
	"testing"

	"campanile/api"
	"campanile/strike"
)

var beyond, beyondBelow = math.Nextafter(api.MaxTime, math.Inf(1)), math.Nextafter(-api.MaxTime, math.Inf(-1))

// wrongNumbers may not be.
func wrongNumbers() []float64 {
	return []float64{
		beyond, beyondBelow, 1e10, -1e10, math.MaxFloat64, -math.MaxFloat64, math.Inf(1), math.Inf(-1),
		math.NaN(), math.Copysign(math.NaN(), -1), math.Float64frombits(0x7ff0000000000001), math.Float64frombits(0xfff8000000000123),
	}
}

// edgeNumbers may just be.
func edgeNumbers() []float64 {
	return []float64{
		api.MaxTime, -api.MaxTime, math.Nextafter(api.MaxTime, 0), math.Nextafter(-api.MaxTime, 0), 0, noughtBelow, least, -least,
	}
}

// X3: what is told of numbers. Sum and Rhythm say the same of all lists.

func numbersAre(t *testing.T, why string, l []float64, want api.Errno) {
	t.Helper()
	if x, e := strike.Sum(l); e != want || e != api.OK && !same(x, 0) {
		t.Errorf("%s: Sum = %v, %d, want %d", why, x, e, want)
	}
	if c, e := strike.Rhythm(l); e != want || e != api.OK && !sameRhythms(c, [8]complex128{}) {
		t.Errorf("%s: Rhythm = %v, %d, want %d", why, c, e, want)
	}
}

func TestNumbersAreRefused(t *testing.T) {
	for _, x := range wrongNumbers() {
		numbersAre(t, "alone", []float64{x}, api.ErrValue)
		for i := range 9 {
			l := []float64{1, 2, 3, 4, 5, 6, 7, 8, 9}
			l[i] = x
			numbersAre(t, "among others", l, api.ErrValue)
		}
		many := make([]float64, api.MaxBlows)
		many[api.MaxBlows-1] = x
		numbersAre(t, "the last one of as many as may be", many, api.ErrValue)
		// Too many are told ahead of what they are.
		numbersAre(t, "among too many", append(many, 0), api.ErrLimit)
		numbersAre(t, "too many of them", slices.Repeat([]float64{x}, api.MaxBlows+1), api.ErrLimit)
	}
	for _, x := range edgeNumbers() {
		numbersAre(t, "at the edge", []float64{x}, api.OK)
		numbersAre(t, "at the edge, among others", []float64{1, x, 3}, api.OK)
	}
}

func TestAsManyNumbersAsMayBe(t *testing.T) {
	numbersAre(t, "none", nil, api.OK)
	numbersAre(t, "none in a list", []float64{}, api.OK)
	numbersAre(t, "as many as may be", make([]float64, api.MaxBlows), api.OK)
	for _, many := range []int{api.MaxBlows + 1, api.MaxBlows + 2, 100000} {
		numbersAre(t, "too many", make([]float64, many), api.ErrLimit)
	}
}

// What is told of blows. Check and Judge say the same.

func blowsAre(t *testing.T, why string, n int, l []api.Blow, want api.Errno) {
	t.Helper()
	if e := strike.Check(n, l); e != want {
		t.Errorf("%s: Check = %d, want %d", why, e, want)
	}
	s, e := strike.Judge(n, l)
	if e != want || e != api.OK && !nothing(s) || e == api.OK && len(s.Bells) != n {
		t.Errorf("%s: Judge = %v, %d, want %d", why, s, e, want)
	}
}

func TestBlowsAreRefused(t *testing.T) {
	bell := func(b int) []api.Blow { return []api.Blow{{Bell: 0, Time: 1}, {Bell: b, Time: 2}} }
	many := slices.Repeat([]api.Blow{{Bell: 0, Time: 1}}, api.MaxBlows)
	tooMany := append(slices.Clone(many), api.Blow{Bell: 0, Time: 1})
	wrong := slices.Repeat([]api.Blow{{Bell: -1, Time: math.NaN()}}, api.MaxBlows+1)
	for _, c := range []struct {
		why  string
		n    int
		l    []api.Blow
		want api.Errno
	}{
		{"no bells", 0, blows(1, 1, 2), api.ErrCount},
		{"fewer than none", -1, blows(1, 1, 2), api.ErrCount},
		{"one bell", 1, blows(1, 1, 2), api.OK},
		{"as many bells as may be", api.MaxBells, blows(12, 1, 2), api.OK},
		{"one bell too many", api.MaxBells + 1, blows(12, 1, 2), api.ErrCount},
		{"the least number", math.MinInt, blows(1, 1, 2), api.ErrCount},
		{"the greatest number", math.MaxInt, blows(1, 1, 2), api.ErrCount},
		{"no blow", 6, nil, api.ErrCount},
		{"no blow, but a list", 6, []api.Blow{}, api.ErrCount},
		{"one blow", 6, blows(6, 1), api.ErrCount},
		{"two blows", 6, blows(6, 1, 2), api.OK},
		{"as many blows as may be", 6, many, api.OK},
		{"one blow too many", 6, tooMany, api.ErrLimit},
		{"far too many", 6, slices.Repeat(many, 20), api.ErrLimit},
		{"a bell below 0", 6, bell(-1), api.ErrValue},
		{"the last bell", 6, bell(5), api.OK},
		{"a bell too many", 6, bell(6), api.ErrValue},
		{"the second bell of one", 1, bell(1), api.ErrValue},
		{"the thirteenth bell", 12, bell(12), api.ErrValue},
		{"the least bell", 12, bell(math.MinInt), api.ErrValue},
		{"the greatest bell", 12, bell(math.MaxInt), api.ErrValue},
		{"the first blow's bell", 2, []api.Blow{{Bell: 2, Time: 1}, {Bell: 0, Time: 2}}, api.ErrValue},
		{"times that are equal", 6, blows(6, 1, 1, 1), api.OK},
		{"a nought below a nought", 6, blows(6, 0, noughtBelow), api.OK},
		{"a nought behind one below", 6, blows(6, noughtBelow, 0), api.OK},
		{"a time below the one ahead", 6, blows(6, 1, math.Nextafter(1, 0)), api.ErrValue},
		{"a time below the one ahead, at last", 6, blows(6, 1, 2, 3, 2.5), api.ErrValue},
		{"a time below the one ahead, but above the first", 6, blows(6, 1, 3, 2, 4), api.ErrValue},
		{"the least step below 0", 6, blows(6, 0, -least), api.ErrValue},
		{"the first time is the greatest", 6, blows(6, api.MaxTime, -api.MaxTime), api.ErrValue},

		{"no bells, no blows", 0, nil, api.ErrCount},
		{"no bells, too many blows", 0, tooMany, api.ErrCount},
		{"too many bells, wrong blows", 13, wrong, api.ErrCount},
		{"too many wrong blows", 12, wrong, api.ErrLimit},
		{"one wrong blow", 12, wrong[:1], api.ErrCount},
		{"two wrong blows", 12, wrong[:2], api.ErrValue},
	} {
		blowsAre(t, c.why, c.n, c.l, c.want)
	}
}

func TestTimesAreRefused(t *testing.T) {
	for _, x := range wrongNumbers() {
		for i := range 5 {
			l := blows(3, 1, 2, 3, 4, 5)
			l[i].Time = x
			blowsAre(t, "a time that may not be", 3, l, api.ErrValue)
		}
		blowsAre(t, "both times", 3, blows(3, x, x), api.ErrValue)
		blowsAre(t, "the first one, then the greatest", 3, blows(3, x, api.MaxTime), api.ErrValue)
	}
	for _, x := range edgeNumbers() {
		blowsAre(t, "a time at the edge", 3, blows(3, x, x, x), api.OK)
		blowsAre(t, "from the least time on", 3, blows(3, -api.MaxTime, x), api.OK)
		blowsAre(t, "up to the greatest time", 3, blows(3, x, api.MaxTime), api.OK)
	}
}

// X1, X2.

// Behind each list there is more in memory, which is not to be read.
func roomyNumbers(l []float64) []float64 {
	return append(slices.Clone(l), math.NaN(), 77)[:len(l)]
}

func roomyBlows(l []api.Blow) []api.Blow {
	return append(slices.Clone(l), api.Blow{Bell: -7, Time: math.Inf(1)}, api.Blow{Bell: 77, Time: 7})[:len(l)]
}

func sameBlow(a, b api.Blow) bool { return a.Bell == b.Bell && same(a.Time, b.Time) }

func TestListsHandedInStay(t *testing.T) {
	next := drawn(223)
	for i := range 60 {
		n := 1 + next(api.MaxBells)
		numbers, l := drawnNumbers(next, next(20)), struck(next, n, next(40))
		if i%4 == 0 {
			numbers, l = append(numbers, wrongNumbers()[i%12]), append(l, api.Blow{Bell: n, Time: beyond})
		}
		roomy, blown := roomyNumbers(numbers), roomyBlows(l)
		a, e := strike.Sum(roomy)
		r, f := strike.Rhythm(roomy)
		s, g := strike.Judge(n, blown)
		c := strike.Check(n, blown)
		if !slices.EqualFunc(roomy[:len(roomy)+2], append(slices.Clone(numbers), math.NaN(), 77), same) {
			t.Errorf("%v became %v", numbers, roomy)
		}
		if !slices.EqualFunc(blown[:len(blown)+2], append(slices.Clone(l), api.Blow{Bell: -7, Time: math.Inf(1)}, api.Blow{Bell: 77, Time: 7}), sameBlow) {
			t.Errorf("%v became %v", l, blown)
		}
		a2, e2 := strike.Sum(slices.Clip(numbers))
		r2, f2 := strike.Rhythm(slices.Clip(numbers))
		s2, g2 := strike.Judge(n, slices.Clip(l))
		if !same(a, a2) || !sameRhythms(r, r2) || !sameStriking(s, s2) || e != e2 || f != f2 || g != g2 || c != g {
			t.Errorf("%v, %v: what stands behind a list is read", numbers, l)
		}
	}
}

// What comes out is written into, what was handed in is changed, and the same is answered again.
func TestNothingIsKept(t *testing.T) {
	next := drawn(227)
	numbers, l := drawnNumbers(next, 30), struck(next, 5, 40)
	sum, rhythm, striking := sumOf(numbers), rhythmsOf(numbers), judged(5, l)
	first, _ := strike.Judge(5, l)
	given := slices.Clone(l)
	second, _ := strike.Judge(5, given)
	clear(given)
	out, _ := strike.Rhythm(numbers)
	clear(out[:])
	spoiled := first.Bells[:cap(first.Bells)]
	for i := range spoiled {
		spoiled[i] = -5
	}
	if !sameStriking(second, striking) {
		t.Errorf("what was handed in is kept, or two answers share memory: %v, want %v", second, striking)
	}
	third, e := strike.Judge(5, l)
	if e != api.OK || !sameStriking(third, striking) {
		t.Errorf("Judge = %v, %d, want %v", third, e, striking)
	}
	if again, e := strike.Rhythm(numbers); e != api.OK || !sameRhythms(again, rhythm) {
		t.Errorf("Rhythm = %v, %d, want %v", again, e, rhythm)
	}
	if again, e := strike.Sum(numbers); e != api.OK || !same(again, sum) {
		t.Errorf("Sum = %v, %d, want %v", again, e, sum)
	}
}

// An answer hangs on nothing but what is asked: neither on what was asked ahead nor on errors.
func TestAnswersHangOnArgumentsAlone(t *testing.T) {
	next := drawn(229)
	var lists [][]float64
	var want []float64
	for range 30 {
		l := drawnNumbers(next, next(25))
		lists, want = append(lists, l), append(want, sumOf(l))
	}
	for range 3 {
		for i := len(lists) - 1; i >= 0; i-- {
			strike.Sum([]float64{math.NaN()})
			strike.Judge(0, nil)
			strike.Rhythm([]float64{beyond})
			if got, e := strike.Sum(lists[i]); e != api.OK || !same(got, want[i]) {
				t.Errorf("Sum(%v) = %v, %d, want %v", lists[i], got, e, want[i])
			}
		}
	}
}
