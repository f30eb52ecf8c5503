package strike_test

import (
	"math"
	"slices"
	"testing"

	"campanile/api"
	"campanile/strike"
)

const least = math.SmallestNonzeroFloat64

var noughtBelow = math.Copysign(0, -1)

// J1.

func TestSum(t *testing.T) {
	for _, c := range []struct {
		why  string
		l    []float64
		want float64
	}{
		{"no number", nil, 0},
		{"no number, but a list", []float64{}, 0},
		{"one number", []float64{0.1}, 0.1},
		{"one number below 0", []float64{-2.5}, -2.5},
		{"the least one", []float64{least}, least},
		{"the least one below 0", []float64{-least}, -least},
		{"the greatest one", []float64{api.MaxTime}, 1e9},
		{"the greatest one below 0", []float64{-api.MaxTime}, -1e9},
		{"more than one may be", []float64{api.MaxTime, api.MaxTime, api.MaxTime}, 3e9},
		{"small whole numbers", []float64{1, 2, 3, -4}, 2},
		{"a great number that comes and goes", []float64{1e9, 1e-9, -1e9}, 1e-9},
		{"a great number that comes later, and goes", []float64{1e-9, 1e9, -1e9}, 1e-9},
		{"a great number that goes at last", []float64{1e9, 0x1p-30, 0x1p-30, 0x1p-30, -1e9}, 0x3p-30},
		{"a great one from below", []float64{-1e9, 1e-9, 1e9}, 1e-9},
		{"great ones, several", []float64{1e-9, 1e9, 1e9, -1e9, 1e-9, -1e9}, 2e-9},
		{"tenths", slices.Repeat([]float64{0.1}, 10), 1},
		{"many tenths", slices.Repeat([]float64{0.1}, api.MaxBlows), 500},
		{"just the greatest, many times", slices.Repeat([]float64{api.MaxTime}, api.MaxBlows), 5e12},
		{"just the greatest below 0, many times", slices.Repeat([]float64{-api.MaxTime}, api.MaxBlows), -5e12},
		{"what is lost is lost, where it is too small for itself", []float64{1e9, 1e-9, 1e-30, -1e-9, -1e9}, 0},
		{"the same in another order", []float64{1e9, -1e9, 1e-9, -1e-9, 1e-30}, 1e-30},
		{"what was lost, beside a great number", []float64{1e9, 1e-8, 1e-8, 1e-8, 1e-8, 1e-8, 1e-8}, 1e9 + 6e-8},
	} {
		if got, e := strike.Sum(c.l); e != api.OK || !same(got, c.want) {
			t.Errorf("%s: Sum = %v, %d, want %v", c.why, got, e, c.want)
		}
		if got := sumOf(c.l); !same(got, c.want) {
			t.Errorf("%s: by fractions it is %v, want %v", c.why, got, c.want)
		}
	}
}

// A nought that is told has no sign.
func TestSumsThatWouldBeNoughtBelow(t *testing.T) {
	for _, l := range [][]float64{
		nil, {0}, {noughtBelow}, {noughtBelow, noughtBelow}, {noughtBelow, 0}, {0, noughtBelow},
		{1, -1}, {-1, 1}, {-1, 1, noughtBelow}, {noughtBelow, -1, 1}, {least, -least}, {-least, least}, {-least, noughtBelow, least},
		{-1e9, 1e-9, 1e9, -1e-9}, {0.1, 0.2, -0.2, -0.1}, slices.Repeat([]float64{noughtBelow}, api.MaxBlows),
	} {
		if got, e := strike.Sum(l); e != api.OK || !same(got, 0) {
			t.Errorf("Sum(%v) = %v, %d, want 0 without a sign", l, got, e)
		}
	}
}

func TestSumsToTheLastBit(t *testing.T) {
	next := drawn(181)
	for i := range 400 {
		l := drawnNumbers(next, next(40))
		// Some go again, so that the small ones are left.
		for range next(20) {
			if len(l) > 0 {
				l = slices.Insert(l, next(len(l)+1), -l[next(len(l))])
			}
		}
		if i%7 == 0 {
			for k := range l {
				l[k] = math.Ldexp(l[k], -1060)
			}
		}
		if got, e := strike.Sum(l); e != api.OK || !same(got, sumOf(l)) {
			t.Errorf("Sum(%v) = %v, %d, want %v", l, got, e, sumOf(l))
		}
	}
	l := drawnNumbers(next, api.MaxBlows)
	if got, e := strike.Sum(l); e != api.OK || !same(got, sumOf(l)) {
		t.Errorf("Sum of %d numbers = %v, %d, want %v", len(l), got, e, sumOf(l))
	}
}
