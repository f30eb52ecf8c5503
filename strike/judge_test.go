package strike_test

import (
	"math"
	"slices"
	"testing"

	"campanile/api"
	"campanile/strike"
)

// J2.

func TestTheDocumentsBlows(t *testing.T) {
	got, e := strike.Judge(2, blows(2, 1, 1.5, 2, 2.5, 3.5))
	if want := (api.Striking{Start: 1, Gap: 0.5, Bells: []float64{0, 0}}); e != api.OK || !sameStriking(got, want) {
		t.Errorf("Judge = %v, %d, want %v", got, e, want)
	}
}

func TestJudge(t *testing.T) {
	alone := []api.Blow{{Bell: 3, Time: 1}, {Bell: 3, Time: 2}, {Bell: 3, Time: 3}}
	for _, c := range []struct {
		why  string
		n    int
		l    []api.Blow
		want api.Striking
	}{
		{"two blows", 1, blows(1, 1, 3), api.Striking{Start: 1, Gap: 2, Bells: []float64{0}}},
		{"two blows at once", 2, blows(2, 7, 7), api.Striking{Start: 7, Bells: []float64{0, 0}}},
		{"two blows at 0", 2, blows(2, noughtBelow, 0), api.Striking{Bells: []float64{0, 0}}},
		{"two blows at 0, the other way", 2, blows(2, 0, noughtBelow), api.Striking{Bells: []float64{0, 0}}},
		{"as far apart as may be", 1, blows(1, -api.MaxTime, api.MaxTime), api.Striking{Start: -1e9, Gap: 2e9, Bells: []float64{0}}},
		{"all at the greatest time", 2, blows(2, 1e9, 1e9, 1e9), api.Striking{Start: 1e9, Bells: []float64{0, 0}}},
		{"all at the least time", 2, blows(2, -1e9, -1e9, -1e9), api.Striking{Start: -1e9, Bells: []float64{0, 0}}},
		{"one bell: a beat is waited for behind two blows", 1, blows(1, 0, 1, 3, 4, 6, 7), api.Striking{Gap: 1, Bells: []float64{0}}},
		{"three bells: behind six", 3, blows(3, 0, 1, 2, 3, 4, 5, 7, 8, 9, 10, 11, 12, 14), api.Striking{Gap: 1, Bells: []float64{0, 0, 0}}},
		{"twelve bells: not behind 23", 12, blows(12, 0, 1, 2, 3, 4, 5, 6, 7, 8, 9, 10, 11, 12, 13, 14, 15, 16, 17, 18, 19, 20, 21, 22, 23, 25), api.Striking{Gap: 1, Bells: make([]float64, 12)}},
		{"bells that have no blow", 5, alone, api.Striking{Start: 1, Gap: 1, Bells: make([]float64, 5)}},
		{"four, of which two are off", 4, blows(4, 0, 2, 2, 4), api.Striking{Start: 0.2, Gap: 1.2, Mean: 0.4, Spread: math.Sqrt(0.2), Bells: []float64{-0.2, 0.6, -0.6, 0.2}}},
	} {
		got, e := strike.Judge(c.n, c.l)
		if f := strike.Check(c.n, c.l); e != api.OK || f != api.OK {
			t.Errorf("%s: Judge = %v, %d; Check = %d", c.why, got, e, f)
		}
		if !near(got, c.want) || !sameStriking(got, judged(c.n, c.l)) {
			t.Errorf("%s: Judge = %v, by fractions %v, want %v", c.why, got, judged(c.n, c.l), c.want)
		}
	}
}

// near: what is told by hand isn't rounded operation by operation.
func near(a, b api.Striking) bool {
	close := func(x, y float64) bool { return math.Abs(x-y) < 1e-14*max(1, math.Abs(y)) }
	return close(a.Start, b.Start) && close(a.Gap, b.Gap) && close(a.Mean, b.Mean) && close(a.Spread, b.Spread) && slices.EqualFunc(a.Bells, b.Bells, close)
}

// Worked out ahead by a program in another language, which fuses nothing.
func TestBitsFromElsewhere(t *testing.T) {
	for _, c := range []struct {
		n     int
		bells []int
		at    []float64
		want  api.Striking
	}{
		{2, []int{0, 1, 1, 0, 0, 1}, []float64{0.1, 0.33, 0.52, 0.81, 1.23, 1.4}, api.Striking{Start: 0x1.b82112c342770p-4, Gap: 0x1.c3322eaf29472p-3, Mean: 0x1.62237d7cda084p-6, Spread: 0x1.a0ade42105ce0p-6, Bells: []float64{0x1.2d38ab78e888dp-6, -0x1.2d38ab78e8880p-6}}},
		{3, []int{2, 1, 0, 2, 1, 0, 0, 1}, []float64{-7.3, -7.01, -6.7, -6.69, -6.3, -5.95, -5.2, -5.1}, api.Striking{Start: -0x1.d65b54692ae5cp+2, Gap: 0x1.23a7ce8d83d43p-2, Mean: 0x1.5b3ccb52ef4e8p-4, Spread: 0x1.a2b5c79a88530p-4, Bells: []float64{0x1.1f65821b3ec40p-4, -0x1.6143be707c755p-6, -0x1.2a9edbbeaf740p-4}}},
		{4, []int{0, 1, 2, 3}, []float64{0, 2, 2, 4}, api.Striking{Start: 0x1.99999999999a0p-3, Gap: 0x1.3333333333333p+0, Mean: 0x1.999999999999bp-2, Spread: 0x1.c9f25c5bfedd9p-2, Bells: []float64{-0x1.99999999999a0p-3, 0x1.3333333333332p-1, -0x1.3333333333334p-1, 0x1.99999999999a0p-3}}},
		{1, []int{0, 0, 0}, []float64{999999999.1, 999999999.3, 999999999.7}, api.Striking{Start: 0x1.dcd64ff8cccccp+29, Gap: 0x1.9999a49249249p-3, Mean: 0x1.5555555555555p-24, Spread: 0x1.a20bd700c2c3ep-24, Bells: []float64{0}}},
		{6, []int{5, 5, 0, 3, 3}, []float64{-1000000000, 0.1, 0.2, 0.3, 1000000000}, api.Striking{Start: -0x1.7d783fff5c28fp+29, Gap: 0x1.7d78400051eb8p+28, Mean: 0x1.c9c37ffef9db3p+27, Spread: 0x1.0dbd6586b055bp+28, Bells: []float64{0x1.47ae133333334p-4, 0, 0, -0x1.7d783fffffffep+26, 0, 0x1.7d783ffd70a3cp+26}}},
		{3, []int{0, 2, 0}, []float64{1e-300, 3.3e-300, 4.7e-300}, api.Striking{Start: 0x1.8a50aed04b170p-997, Gap: 0x1.3d2aa2df3144dp-996, Mean: 0x1.124e63593f5e4p-999, Spread: 0, Bells: []float64{-0x1.9b759505df0ccp-1000, 0, 0x1.9b759505df0e0p-999}}},
	} {
		l := blows(c.n, c.at...)
		for k, bell := range c.bells {
			l[k].Bell = bell
		}
		if got, e := strike.Judge(c.n, l); e != api.OK || !sameStriking(got, c.want) {
			t.Errorf("Judge(%d, %v) = %v, %d, want %v", c.n, l, got, e, c.want)
		}
	}
}

func TestBlowsToTheLastBit(t *testing.T) {
	next := drawn(199)
	for i := range 300 {
		n := 1 + next(api.MaxBells)
		l := struck(next, n, 2+next(60))
		if i%6 == 0 {
			small := -1000 - next(60)
			for k := range l {
				l[k].Time = math.Ldexp(l[k].Time, small)
			}
		}
		got, e := strike.Judge(n, l)
		if want := judged(n, l); e != api.OK || !sameStriking(got, want) {
			t.Errorf("Judge(%d, %v) = %v, %d, want %v", n, l, got, e, want)
		}
	}
}

func TestAsManyBlowsAsMayBe(t *testing.T) {
	next := drawn(211)
	for _, n := range []int{1, 5, api.MaxBells} {
		l := struck(next, n, api.MaxBlows)
		got, e := strike.Judge(n, l)
		if want := judged(n, l); e != api.OK || !sameStriking(got, want) {
			t.Errorf("%d bells: Judge = %v, %d, want %v", n, got, e, want)
		}
	}
	// All at the edge of what may be.
	l := slices.Repeat([]api.Blow{{Bell: 0, Time: api.MaxTime}}, api.MaxBlows)
	for k := range l[:api.MaxBlows/2] {
		l[k].Time = -api.MaxTime
	}
	if got, e := strike.Judge(1, l); e != api.OK || !sameStriking(got, judged(1, l)) {
		t.Errorf("Judge = %v, %d, want %v", got, e, judged(1, l))
	}
}

// Of numbers that are nearly 0 quotients come to a nought, which would have a sign.
func TestStrikingThatWouldBeNoughtBelow(t *testing.T) {
	equal := func(many int, at float64) []float64 { return slices.Repeat([]float64{at}, many) }
	for _, c := range []struct {
		why  string
		n    int
		at   []float64
		what func(api.Striking) float64
	}{
		{"Start", 1, []float64{-least, noughtBelow, noughtBelow}, func(s api.Striking) float64 { return s.Start }},
		{"Start of three bells", 3, []float64{-least, noughtBelow, 0}, func(s api.Striking) float64 { return s.Start }},
		{"a bell's own", 1, []float64{-3 * least, -3 * least, noughtBelow}, func(s api.Striking) float64 { return s.Bells[0] }},
		{"a bell's own of two", 2, []float64{-3 * least, -3 * least, -least}, func(s api.Striking) float64 { return s.Bells[0] }},
		{"Gap", 3, equal(6, 0x0.7c3226d21f4cdp-1022), func(s api.Striking) float64 { return s.Gap }},
		{"Gap, below 0", 1, equal(9, -0x1.ef1e296380ed6p-1022), func(s api.Striking) float64 { return s.Gap }},
		{"Mean", 2, equal(5, noughtBelow), func(s api.Striking) float64 { return s.Mean }},
		{"Spread", 2, equal(5, noughtBelow), func(s api.Striking) float64 { return s.Spread }},
	} {
		l := blows(c.n, c.at...)
		got, e := strike.Judge(c.n, l)
		if e != api.OK || !sameStriking(got, judged(c.n, l)) {
			t.Errorf("%s: Judge = %v, %d, want %v", c.why, got, e, judged(c.n, l))
		}
		if x := c.what(got); !same(x, 0) {
			t.Errorf("%s: %v, want 0 without a sign", c.why, x)
		}
	}
}
