// Package row: orders in which bells ring: see the document's chapter.
package row

import (
	"slices"

	"campanile/api"
)

// All signs are of one byte, so that a sign's index is its bell.
const signs = "1234567890ET"

// Check says whether a list is a row.
func Check(r []int) api.Errno {
	if !mayCount(len(r)) {
		return api.ErrCount
	}
	var there [api.MaxBells]bool
	for _, bell := range r {
		if bell < 0 || bell >= len(r) || there[bell] {
			return api.ErrRow
		}
		there[bell] = true
	}
	return api.OK
}

func mayCount(n int) bool { return n >= 1 && n <= api.MaxBells }

// Rounds is the first row of all.
func Rounds(n int) ([]int, api.Errno) {
	if !mayCount(n) {
		return nil, api.ErrCount
	}
	r := make([]int, n)
	for i := range r {
		r[i] = i
	}
	return r, api.OK
}

// Times is a, changed as b changes rounds.
func Times(a, b []int) ([]int, api.Errno) {
	if e := Check(a); e != api.OK {
		return nil, e
	}
	if e := Check(b); e != api.OK {
		return nil, e
	}
	if len(a) != len(b) {
		return nil, api.ErrCount
	}
	r := make([]int, len(a))
	for i, place := range b {
		r[i] = a[place]
	}
	return r, api.OK
}

// Back is what undoes a row.
func Back(r []int) ([]int, api.Errno) {
	if e := Check(r); e != api.OK {
		return nil, e
	}
	back := make([]int, len(r))
	for place, bell := range r {
		back[bell] = place
	}
	return back, api.OK
}

// Cycles of a row: each from its least on, by these.
func Cycles(r []int) ([][]int, api.Errno) {
	if e := Check(r); e != api.OK {
		return nil, e
	}
	var done [api.MaxBells]bool
	var cycles [][]int
	for least := range r {
		if done[least] {
			continue
		}
		cycle := cycleFrom(r, least)
		for _, bell := range cycle {
			done[bell] = true
		}
		cycles = append(cycles, cycle)
	}
	return cycles, api.OK
}

func cycleFrom(r []int, first int) []int {
	cycle := []int{first}
	for bell := r[first]; bell != first; bell = r[bell] {
		cycle = append(cycle, bell)
	}
	return cycle
}

// Order is how often a row must be taken to come to rounds; odd: is it an odd number of swaps?
func Order(r []int) (order int, odd bool, e api.Errno) {
	cycles, e := Cycles(r)
	if e != api.OK {
		return 0, false, e
	}
	order = 1
	for _, cycle := range cycles {
		order = leastMultiple(order, len(cycle))
		if len(cycle)%2 == 0 {
			odd = !odd
		}
	}
	return order, odd, api.OK
}

func leastMultiple(a, b int) int {
	multiple := a
	for multiple%b != 0 {
		multiple += a
	}
	return multiple
}

// Rank is a row's place among all of as many bells, in order.
func Rank(r []int) (int, api.Errno) {
	if e := Check(r); e != api.OK {
		return 0, e
	}
	rank := 0
	for i, bell := range r {
		rank = rank*(len(r)-i) + lower(r[i+1:], bell)
	}
	return rank, api.OK
}

func lower(bells []int, than int) int {
	many := 0
	for _, bell := range bells {
		if bell < than {
			many++
		}
	}
	return many
}

// At is the row at a place.
func At(n, k int) ([]int, api.Errno) {
	left, e := Rounds(n)
	if e != api.OK {
		return nil, e
	}
	many := rowsOf(n)
	if k < 0 || k >= many {
		return nil, api.ErrValue
	}
	r := make([]int, 0, n)
	for len(left) > 0 {
		// So many rows have the same bell in this place, behind the same bells.
		many /= len(left)
		next := k / many
		k %= many
		r = append(r, left[next])
		left = slices.Delete(left, next, next+1)
	}
	return r, api.OK
}

func rowsOf(n int) int {
	many := 1
	for i := 2; i <= n; i++ {
		many *= i
	}
	return many
}

// Text is a row, a sign a bell.
func Text(r []int) (string, api.Errno) {
	if e := Check(r); e != api.OK {
		return "", e
	}
	text := make([]byte, 0, len(r))
	for _, bell := range r {
		text = append(text, signs[bell])
	}
	return string(text), api.OK
}

// Read is the row of a text.
func Read(text string) ([]int, api.Errno) {
	var r []int
	for _, sign := range text {
		bell, ok := bellOf(sign)
		if !ok {
			return nil, api.ErrWord
		}
		// One bell too many is enough for Check to refuse it, however long the text is.
		if len(r) <= api.MaxBells {
			r = append(r, bell)
		}
	}
	if e := Check(r); e != api.OK {
		return nil, e
	}
	return r, api.OK
}

func bellOf(sign rune) (int, bool) {
	for bell, s := range signs {
		if s == sign {
			return bell, true
		}
	}
	return 0, false
}
