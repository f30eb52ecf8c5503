package strike

import "math"

// total is a sum that goes on, and beside it what its roundings have lost.
type total struct {
	all, lost float64
}

func (t *total) add(x float64) {
	next := t.all + x
	if math.Abs(t.all) >= math.Abs(x) {
		t.lost += (t.all - next) + x
	} else {
		t.lost += (x - next) + t.all
	}
	t.all = next
}

// sum is never -0: both parts are 0 at first, and to that no number can be added that makes it -0.
func (t *total) sum() float64 { return t.all + t.lost }

// mean is that of so many numbers. A quotient can be too small for any number but -0.
func (t *total) mean(many int) float64 { return unsigned(t.sum() / float64(many)) }

// unsigned takes the sign of a nought away.
func unsigned(x float64) float64 {
	if x == 0 {
		return 0
	}
	return x
}
