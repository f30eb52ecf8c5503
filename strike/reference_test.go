package strike_test

import (
	"math"
	"math/big"
	"slices"

	"campanile/api"
)

// The document's formulas, operation by operation: each is found without rounding, as a fraction, and then rounded once. So nothing is fused, whatever the machine.

func exact(x float64) *big.Rat { return new(big.Rat).SetFloat64(x) }

func rounded(r *big.Rat) float64 {
	x, _ := r.Float64()
	return x
}

func plus(a, b float64) float64  { return rounded(new(big.Rat).Add(exact(a), exact(b))) }
func minus(a, b float64) float64 { return rounded(new(big.Rat).Sub(exact(a), exact(b))) }
func times(a, b float64) float64 { return rounded(new(big.Rat).Mul(exact(a), exact(b))) }
func over(a, b float64) float64  { return rounded(new(big.Rat).Quo(exact(a), exact(b))) }

// root is found with so many digits that rounding it a second time is right, too.
func root(x float64) float64 {
	y, _ := new(big.Float).Sqrt(new(big.Float).SetPrec(400).SetFloat64(x)).Float64()
	return y
}

func sumOf(l []float64) float64 {
	all, lost := 0.0, 0.0
	for _, x := range l {
		t := plus(all, x)
		if math.Abs(all) >= math.Abs(x) {
			lost = plus(lost, plus(minus(all, t), x))
		} else {
			lost = plus(lost, plus(minus(x, t), all))
		}
		all = t
	}
	return plus(all, lost)
}

// told: a nought without its sign.
func told(x float64) float64 {
	if x == 0 {
		return 0
	}
	return x
}

// line is Start and Gap.
func line(n int, l []api.Blow) (start, gap float64) {
	x, q := big.NewInt(0), big.NewInt(0)
	var t, u []float64
	for k, b := range l {
		c := big.NewInt(int64(k + k/(2*n)))
		x.Add(x, c)
		q.Add(q, new(big.Int).Mul(c, c))
		t = append(t, b.Time)
		u = append(u, times(float64(c.Int64()), b.Time))
	}
	many := big.NewInt(int64(len(l)))
	whole := new(big.Int).Sub(new(big.Int).Mul(many, q), new(big.Int).Mul(x, x))
	divisor, _ := new(big.Float).SetInt(whole).Float64()
	xs, ns := float64(x.Int64()), float64(len(l))
	gap = over(minus(times(ns, sumOf(u)), times(xs, sumOf(t))), divisor)
	start = over(minus(sumOf(t), times(gap, xs)), ns)
	return start, gap
}

func judged(n int, l []api.Blow) api.Striking {
	start, gap := line(n, l)
	var far, squares []float64
	own := make([][]float64, n)
	for k, b := range l {
		d := minus(b.Time, plus(start, times(gap, float64(k+k/(2*n)))))
		far = append(far, math.Abs(d))
		squares = append(squares, times(d, d))
		own[b.Bell] = append(own[b.Bell], d)
	}
	s := api.Striking{Start: told(start), Gap: told(gap), Bells: make([]float64, n)}
	s.Mean = told(over(sumOf(far), float64(len(l))))
	s.Spread = told(root(over(sumOf(squares), float64(len(l)))))
	for bell, ds := range own {
		if len(ds) > 0 {
			s.Bells[bell] = told(over(sumOf(ds), float64(len(ds))))
		}
	}
	return s
}

func rhythmsOf(l []float64) [8]complex128 {
	h := root(0.5)
	first := []float64{1, h, 0, -h, -1, -h, 0, h}
	second := []float64{0, h, 1, h, 0, -h, -1, -h}
	var out [8]complex128
	for j := range out {
		var a, b []float64
		for k, x := range l {
			a = append(a, times(x, first[j*k%8]))
			b = append(b, times(x, second[j*k%8]))
		}
		out[j] = complex(told(sumOf(a)), told(sumOf(b)))
	}
	return out
}

// same: to the last bit, the sign of a nought too.
func same(a, b float64) bool { return math.Float64bits(a) == math.Float64bits(b) }

func sameRhythms(a, b [8]complex128) bool {
	for j := range a {
		if !same(real(a[j]), real(b[j])) || !same(imag(a[j]), imag(b[j])) {
			return false
		}
	}
	return true
}

func sameStriking(a, b api.Striking) bool {
	return same(a.Start, b.Start) && same(a.Gap, b.Gap) && same(a.Mean, b.Mean) && same(a.Spread, b.Spread) && slices.EqualFunc(a.Bells, b.Bells, same)
}

// nothing: what is answered with an error.
func nothing(s api.Striking) bool {
	return sameStriking(s, api.Striking{}) && len(s.Bells) == 0
}

// drawn numbers, the same each time.
func drawn(number uint64) func(most int) int {
	return func(most int) int {
		number = number*6364136223846793005 + 1442695040888963407
		return int(number >> 33 % uint64(most))
	}
}

// drawnNumber: one of many sizes, up to MaxTime, whose digits go on to the last.
func drawnNumber(next func(int) int) float64 {
	x := math.Ldexp(float64(next(1<<30))+float64(next(1<<30))/(1<<30), -next(70))
	if next(2) == 0 {
		x = -x
	}
	return max(min(x, api.MaxTime), -api.MaxTime)
}

func drawnNumbers(next func(int) int, many int) []float64 {
	var l []float64
	for range many {
		l = append(l, drawnNumber(next))
	}
	return l
}

// blows of some bells, one behind the other, at these times.
func blows(n int, at ...float64) []api.Blow {
	var l []api.Blow
	for k, t := range at {
		l = append(l, api.Blow{Bell: k % n, Time: t})
	}
	return l
}

// struck: so many blows, nearly even, by whichever bells.
func struck(next func(int) int, n, many int) []api.Blow {
	var l []api.Blow
	at, gap := drawnNumber(next)/2, float64(1+next(1000))/3000
	for range many {
		l = append(l, api.Blow{Bell: next(n), Time: at})
		at += gap * float64(next(2000)) / 999
	}
	return l
}
