package band

import (
	"sync"
	"sync/atomic"
)

// tower: where a band rings.
type tower struct {
	ropes []rope
	heard chan stroke
	// How many strokes there were of all bells.
	struck atomic.Int64
	band   sync.WaitGroup
}

// rope: what a ringer is told: numbers of rows, one at a time, and ahead of a lead its call.
type rope struct {
	rows, calls chan int
}

// stroke: a bell, and the place in which it is heard.
type stroke struct {
	bell, place int
}

func newTower(bells int) *tower {
	// There is room for all strokes of a row, so that nobody waits for others to be heard.
	t := &tower{heard: make(chan stroke, bells)}
	for range bells {
		t.ropes = append(t.ropes, rope{rows: make(chan int, 1), calls: make(chan int, 1)})
	}
	return t
}

// start lets a ringer for each bell go by itself. All know what the one knows that is handed in.
func (t *tower) start(r ringer) {
	t.band.Add(len(t.ropes))
	for bell := range t.ropes {
		r.bell, r.place = bell, bell
		go t.ring(r)
	}
}

// ring rings a bell until no row comes any more.
func (t *tower) ring(r ringer) {
	defer t.band.Done()
	mine := t.ropes[r.bell]
	for number := range mine.rows {
		r.listen(mine.calls)
		at := r.heardAt(number)
		// A stroke is counted ahead of being heard: so a row that was heard was counted whole.
		t.struck.Add(1)
		t.heard <- stroke{bell: r.bell, place: at}
		r.goOn()
	}
}

// touch is all rows of some leads, each of so many changes: it goes on until all strokes were rung.
func (t *tower) touch(leads []int, changes int) [][]int {
	all := (len(leads)*changes + 1) * len(t.ropes)
	var rows [][]int
	for t.struck.Load() < int64(all) {
		number := len(rows)
		if lead := number / changes; number%changes == 0 && lead < len(leads) {
			t.call(leads[lead])
		}
		rows = append(rows, t.row(number))
	}
	return rows
}

func (t *tower) call(c int) {
	for _, its := range t.ropes {
		its.calls <- c
	}
}

// row is one row, in which each bell is heard once, whoever is first.
func (t *tower) row(number int) []int {
	for _, its := range t.ropes {
		its.rows <- number
	}
	r := make([]int, len(t.ropes))
	for range r {
		s := <-t.heard
		r[s.place] = s.bell
	}
	return r
}

// stand ends all ringing, and waits for the last ringer to go.
func (t *tower) stand() {
	for _, its := range t.ropes {
		close(its.rows)
	}
	t.band.Wait()
}
