package strike_test

import (
	"sync"
	"testing"

	"campanile/api"
	"campanile/strike"
)

// The eighths of a turn, which are found once: beside Rhythm, which works them out by itself.

func TestEighthsAreThoseOfRhythm(t *testing.T) {
	want := [8]complex128{1, complex(h, h), 1i, complex(-h, h), -1, complex(-h, -h), complex(0, -1), complex(h, -h)}
	for range 3 {
		if got := strike.Eighths(); !sameRhythms(got, want) {
			t.Errorf("Eighths = %v, want %v", got, want)
		}
		// A nought and a 1: of each rhythm the eighth itself.
		if got, e := strike.Rhythm([]float64{0, 1}); e != api.OK || !sameRhythms(got, strike.Eighths()) {
			t.Errorf("Rhythm = %v, %d, want %v", got, e, strike.Eighths())
		}
	}
}

func TestEighthsAreTheCallers(t *testing.T) {
	want := strike.Eighths()
	mine := strike.Eighths()
	mine[0], mine[7] = 5, 5
	if got := strike.Eighths(); !sameRhythms(got, want) {
		t.Errorf("Eighths = %v, want %v", got, want)
	}
	if got, e := strike.Rhythm([]float64{0, 1}); e != api.OK || !sameRhythms(got, want) {
		t.Errorf("Rhythm = %v, %d, want %v", got, e, want)
	}
}

func TestManyAskForEighthsAtOnce(t *testing.T) {
	want := rhythmsOf([]float64{0, 1})
	var asked sync.WaitGroup
	for range 64 {
		asked.Go(func() {
			if got := strike.Eighths(); !sameRhythms(got, want) {
				t.Errorf("Eighths = %v, want %v", got, want)
			}
		})
	}
	asked.Wait()
}
