package strike

import (
	"math"
	"sync"

	"campanile/api"
)

// The eighths of a turn, and that they were found.
var (
	turn  [8]complex128
	found sync.Once
)

// Eighths are those of a turn, from a whole one on.
func Eighths() [8]complex128 {
	found.Do(func() { turn = eighths() })
	return turn
}

// eighths works them out. Rhythm goes by this, so that what it answers hangs on nothing that is kept.
func eighths() [8]complex128 {
	h := math.Sqrt(0.5)
	return [8]complex128{
		complex(1, 0), complex(h, h), complex(0, 1), complex(-h, h),
		complex(-1, 0), complex(-h, -h), complex(0, -1), complex(h, -h),
	}
}

// Rhythm is how much of each of eight rhythms there is in a row of numbers.
func Rhythm(l []float64) ([8]complex128, api.Errno) {
	if e := checkNumbers(l); e != api.OK {
		return [8]complex128{}, e
	}
	var rhythms [8]complex128
	for j := range rhythms {
		rhythms[j] = rhythm(l, j)
	}
	return rhythms, api.OK
}

// rhythm is how much there is of the one that goes on by j eighths from number to number.
func rhythm(l []float64, j int) complex128 {
	var first, second total
	w := eighths()
	for k, x := range l {
		// Part by part, as a product of complex numbers would be rounded otherwise.
		at := w[j*k%len(w)]
		first.add(float64(x * real(at)))
		second.add(float64(x * imag(at)))
	}
	return complex(first.sum(), second.sum())
}
