package extent

import (
	"slices"

	"campanile/api"
	"campanile/group"
	"campanile/row"
)

// maxCircuit is up to how many bells a circuit is looked for.
const maxCircuit = 4

// Circuit is the first way, in order, to ring each row of n bells once and come to rounds, by such changes (by numbers); false: there is none.
func Circuit(n int, changes [][]int) ([]int, bool, api.Errno) {
	if e := checkCircuit(n, changes); e != api.OK {
		return nil, false, e
	}
	rows := allRows(n)
	w := walk{tried: unlike(changes), rung: map[int]int{0: 0}}
	for _, change := range changes {
		w.to = append(w.to, led(rows, change))
	}
	if !w.from(0, len(rows)) {
		return nil, false, api.OK
	}
	return w.way, true, api.OK
}

func checkCircuit(n int, changes [][]int) api.Errno {
	if n < 1 || n > maxCircuit {
		return api.ErrCount
	}
	if e := group.Check(n, changes); e != api.OK {
		return e
	}
	for _, change := range changes {
		if order, _, _ := row.Order(change); order > 2 {
			return api.ErrPlace
		}
	}
	return api.OK
}

func allRows(n int) [][]int {
	var rows [][]int
	for {
		r, e := row.At(n, len(rows))
		if e != api.OK {
			return rows
		}
		rows = append(rows, r)
	}
}

// unlike are the numbers of the changes, but those of one that was there ahead: it leads nowhere else, and would be tried in vain again and again.
func unlike(changes [][]int) []int {
	var numbers []int
	for k, change := range changes {
		again := func(ahead []int) bool { return slices.Equal(ahead, change) }
		if !slices.ContainsFunc(changes[:k], again) {
			numbers = append(numbers, k)
		}
	}
	return numbers
}

// walk: how far a way through all rows has come.
type walk struct {
	to    [][]int // of each change: where it leads from each row
	tried []int
	rung  map[int]int // the rows so far, each with its place
	way   []int
}

// from goes on from a row until all of them were rung, and then to rounds, if there is a way.
func (w *walk) from(at, all int) bool {
	for _, k := range w.tried {
		next := w.to[k][at]
		_, again := w.rung[next]
		home := next == 0 && len(w.rung) == all
		if again && !home {
			continue
		}
		w.way = append(w.way, k)
		if home {
			return true
		}
		w.rung[next] = len(w.rung)
		if w.from(next, all) {
			return true
		}
		delete(w.rung, next)
		w.way = w.way[:len(w.way)-1]
	}
	return false
}
