package band_test

import (
	"reflect"
	"runtime"
	"slices"
	"sync"
	"sync/atomic"
	"testing"
	"time"

	"campanile/api"
	"campanile/band"
)

// crowds: several touches of many bells, with calls in each lead and slips that meet.
func crowds() []tune {
	next := drawn(173)
	var l []tune
	for i := range 6 {
		q := tune{m: api.Method{Name: "Tested", Bells: 12 - i%3, Changes: drawnChanges(next, 12-i%3, 1+i*5)}}
		for c := range api.MaxCalls {
			q.calls = append(q.calls, api.Call{Sign: rune('a' + c), Changes: drawnChanges(next, q.m.Bells, min(c, len(q.m.Changes)))})
		}
		for range 12 {
			q.leads = append(q.leads, next(len(q.calls)))
		}
		q.slips = drawnSlips(next, q, api.MaxFaults)
		l = append(l, q)
	}
	return l
}

// disturbed does something while others keep the machine busy, so that ringers are late, now these, now those.
func disturbed(others int, do func()) {
	var over atomic.Bool
	var all sync.WaitGroup
	for range others {
		all.Go(func() {
			for n := 0; !over.Load(); n++ {
				if n%64 == 0 {
					runtime.Gosched()
				}
			}
		})
	}
	do()
	over.Store(true)
	all.Wait()
}

func TestRingDoesNotHangOnWhoIsLate(t *testing.T) {
	before := runtime.GOMAXPROCS(0)
	defer runtime.GOMAXPROCS(before)
	for _, q := range crowds() {
		want := byHand(q)
		for _, at := range []int{1, 2, 3, 8} {
			runtime.GOMAXPROCS(at)
			for _, others := range []int{0, 1, 4} {
				disturbed(others, func() {
					for range 12 {
						if got, e := rung(q); e != api.OK || !same(got, want) {
							t.Errorf("%d at once, %d others: %v: Ring = %v, %d, want %v", at, others, q, got, e, want)
						}
					}
				})
			}
		}
	}
}

// Bands that ring at the same time don't hear each other.
func TestSeveralBandsAtOnce(t *testing.T) {
	l := crowds()
	var all sync.WaitGroup
	for i := range 48 {
		q := l[i%len(l)]
		all.Go(func() {
			want := byHand(q)
			for range 8 {
				if got, e := rung(q); e != api.OK || !same(got, want) {
					t.Errorf("%v: Ring = %v, %d, want %v", q, got, e, want)
				}
			}
		})
	}
	all.Wait()
}

// gone: is there nobody more than so many, if one waits a little?
func gone(many int) bool {
	for range 2000 {
		if runtime.NumGoroutine() <= many {
			return true
		}
		time.Sleep(time.Millisecond)
	}
	return false
}

func TestNobodyStaysInTheTower(t *testing.T) {
	before := runtime.NumGoroutine()
	for _, q := range slices.Concat(several(), crowds()) {
		rung(q)
		if !gone(before) {
			t.Fatalf("%v: there are %d, and were %d", q, runtime.NumGoroutine(), before)
		}
	}
}

// Where one goes at a time, all have gone as soon as what they ring is answered, but for the last one, if it is held up just then.
func TestTheBandIsWaitedFor(t *testing.T) {
	before := runtime.GOMAXPROCS(1)
	defer runtime.GOMAXPROCS(before)
	q, here, empty := crowds()[0], runtime.NumGoroutine(), 0
	for range 60 {
		rung(q)
		if runtime.NumGoroutine() <= here {
			empty++
		}
		if !gone(here) {
			t.Fatal("a ringer stays")
		}
	}
	if empty < 30 {
		t.Errorf("only %d of 60 times all have gone", empty)
	}
}

func TestAnswersHangOnArgumentsAlone(t *testing.T) {
	type answer struct {
		rows  [][]int
		wrong []int
		e     [2]api.Errno
	}
	answered := func(q tune) answer {
		var a answer
		a.rows, a.e[0] = rung(q)
		a.e[1] = band.May(q.slips, q.m.Bells, 30)
		a.wrong = band.Wrong(a.rows, q.m.Changes)
		return a
	}
	l := several()
	var first []answer
	for _, q := range l {
		first = append(first, answered(q))
	}
	for i := len(l) - 1; i >= 0; i-- {
		if again := answered(l[i]); !reflect.DeepEqual(again, first[i]) {
			t.Errorf("%v: %v, then %v", l[i], first[i], again)
		}
	}
}
