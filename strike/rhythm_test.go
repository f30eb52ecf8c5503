package strike_test

import (
	"math"
	"slices"
	"sync"
	"testing"

	"campanile/api"
	"campanile/strike"
)

// J3.

var h = math.Float64frombits(0x3fe6a09e667f3bcd)

func TestTheEighthsOfATurn(t *testing.T) {
	w := [8]complex128{complex(1, 0), complex(h, h), complex(0, 1), complex(-h, h), complex(-1, 0), complex(-h, -h), complex(0, -1), complex(h, -h)}
	// One 1 among noughts: the j-th number is the eighth of j times its place.
	for k := range 40 {
		l := make([]float64, 40)
		l[k] = 1
		var want [8]complex128
		for j := range want {
			want[j] = w[j*k%8]
		}
		if got, e := strike.Rhythm(l); e != api.OK || !sameRhythms(got, want) {
			t.Errorf("a 1 at %d: Rhythm = %v, %d, want %v", k, got, e, want)
		}
		if got, e := strike.Rhythm(l[:k+1]); e != api.OK || !sameRhythms(got, want) {
			t.Errorf("a 1 at the end, at %d: Rhythm = %v, %d, want %v", k, got, e, want)
		}
	}
}

func all(c complex128) [8]complex128 { return [8]complex128{c, c, c, c, c, c, c, c} }

func TestRhythm(t *testing.T) {
	for _, c := range []struct {
		why  string
		l    []float64
		want [8]complex128
	}{
		{"no number", nil, all(0)},
		{"no number, but a list", []float64{}, all(0)},
		{"one number", []float64{0.3}, all(0.3)},
		{"one number below 0", []float64{-0.3}, all(-0.3)},
		{"a nought", []float64{0}, all(0)},
		{"a nought below", []float64{noughtBelow}, all(0)},
		{"noughts below", slices.Repeat([]float64{noughtBelow}, 20), all(0)},
		{"the greatest number", []float64{api.MaxTime}, all(1e9)},
		{"the greatest number below 0", []float64{-api.MaxTime}, all(-1e9)},
		{"a whole turn of ones", slices.Repeat([]float64{1}, 8), [8]complex128{8}},
		{"to and fro", []float64{1, -1, 1, -1, 1, -1, 1, -1}, [8]complex128{4: 8}},
		{"every fourth", []float64{1, 0, 0, 0, 1, 0, 0, 0}, [8]complex128{0: 2, 2: 2, 4: 2, 6: 2}},
		{"a quarter ahead", []float64{0, 0, 1}, [8]complex128{1, 1i, -1, complex(0, -1), 1, 1i, -1, complex(0, -1)}},
		{"a great number that comes and goes", []float64{1e9, 0, 0, 0, 1e-9, 0, 0, 0, -1e9}, [8]complex128{1e-9, -1e-9, 1e-9, -1e-9, 1e-9, -1e-9, 1e-9, -1e-9}},
	} {
		if got, e := strike.Rhythm(c.l); e != api.OK || !sameRhythms(got, c.want) {
			t.Errorf("%s: Rhythm = %v, %d, want %v", c.why, got, e, c.want)
		}
	}
}

func TestRhythmsToTheLastBit(t *testing.T) {
	next := drawn(193)
	for i := range 120 {
		l := drawnNumbers(next, next(40))
		if i%5 == 0 {
			for k := range l {
				l[k] = math.Ldexp(l[k], -1060)
			}
		}
		if i%5 == 1 {
			l = append(l, slices.Repeat([]float64{0.1}, 24)...)
		}
		if got, e := strike.Rhythm(l); e != api.OK || !sameRhythms(got, rhythmsOf(l)) {
			t.Errorf("Rhythm(%v) = %v, %d, want %v", l, got, e, rhythmsOf(l))
		}
	}
	l := drawnNumbers(next, api.MaxBlows)
	if got, e := strike.Rhythm(l); e != api.OK || !sameRhythms(got, rhythmsOf(l)) {
		t.Errorf("Rhythm of %d numbers = %v, %d, want %v", len(l), got, e, rhythmsOf(l))
	}
}

// No part has a sign, if it is 0, whatever the signs of what comes to it.
func TestRhythmsThatWouldBeNoughtBelow(t *testing.T) {
	for _, l := range [][]float64{{-1}, {-1, noughtBelow, 1}, {noughtBelow, 0, noughtBelow}, {-least, 0, 0, 0, 0, 0, 0, 0, least}, {0, -least, 0, 0, 0, least}, {-1, -1, -1, -1, -1, -1, -1, -1}} {
		got, e := strike.Rhythm(l)
		if e != api.OK || !sameRhythms(got, rhythmsOf(l)) {
			t.Errorf("Rhythm(%v) = %v, %d, want %v", l, got, e, rhythmsOf(l))
		}
		for j, c := range got {
			if real(c) == 0 && math.Signbit(real(c)) || imag(c) == 0 && math.Signbit(imag(c)) {
				t.Errorf("Rhythm(%v): number %d is %v: a nought has a sign", l, j, c)
			}
		}
	}
}

// The eighths are found once, whoever asks first.
func TestManyAskAtOnce(t *testing.T) {
	next := drawn(197)
	l := drawnNumbers(next, 50)
	want := rhythmsOf(l)
	var asked sync.WaitGroup
	for range 64 {
		asked.Go(func() {
			for range 20 {
				if got, e := strike.Rhythm(l); e != api.OK || !sameRhythms(got, want) {
					t.Errorf("Rhythm = %v, %d, want %v", got, e, want)
				}
			}
		})
	}
	asked.Wait()
}
