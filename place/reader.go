package place

import (
	"slices"
	"strings"

	"campanile/api"
)

// fault is why a reader gave up. It is a type of its own, so that it is not taken for another panic.
type fault api.Errno

// reader: what is known of a text up to some rune. Its methods give up by a fault.
type reader struct {
	bells int
	// The changes of all blocks that are at their end.
	all [][]int
	// Those of the block that isn't, as they stand in the text.
	block [][]int
	// Is there & or + ahead of the block? Is it told back again?
	marked, mirrored bool
	// The places of a change that may have more of them.
	open []int
	// Must a change come, since there was a dot?
	dot bool
}

func (r *reader) take(sign rune) {
	if i := strings.IndexRune(signs, sign); i >= 0 {
		r.open = append(r.open, i+1)
		return
	}
	r.endSigns()
	switch sign {
	case 'x', 'X', '-', '×':
		r.add(nil)
	case '.':
		r.needChange(api.ErrWord)
		r.dot = true
	case ',':
		r.needChange(api.ErrWord)
		r.endBlock()
	case '&', '+':
		r.mark(sign == '&')
	default:
		panic(fault(api.ErrWord))
	}
}

// end asks for the change that may be missing ahead of counting all: a block that lacks one isn't at its end.
func (r *reader) end() {
	r.endSigns()
	r.needChange(api.ErrShort)
	r.endBlock()
}

func (r *reader) endSigns() {
	if len(r.open) == 0 {
		return
	}
	places := r.open
	r.open = nil
	if places[0]%2 == 0 {
		places = slices.Insert(places, 0, 1)
	}
	if left := r.bells - places[len(places)-1]; left > 0 && !pairs(left) {
		places = append(places, r.bells)
	}
	// Places that don't rise don't with these two either.
	r.add(places)
}

func (r *reader) add(places []int) {
	if e := Check(r.bells, places); e != api.OK {
		panic(fault(e))
	}
	r.block = append(r.block, places)
	r.dot = false
	needRoom(r.block)
}

func needRoom(changes [][]int) {
	if len(changes) > api.MaxChanges {
		panic(fault(api.ErrLimit))
	}
}

func (r *reader) needChange(otherwise api.Errno) {
	if len(r.block) == 0 || r.dot {
		panic(fault(otherwise))
	}
}

func (r *reader) mark(mirrored bool) {
	if r.marked || len(r.block) > 0 {
		panic(fault(api.ErrWord))
	}
	r.marked, r.mirrored = true, mirrored
}

func (r *reader) endBlock() {
	r.all = append(r.all, r.block...)
	if r.mirrored {
		for i := len(r.block) - 2; i >= 0; i-- {
			r.all = append(r.all, slices.Clone(r.block[i]))
		}
	}
	needRoom(r.all)
	r.block, r.marked, r.mirrored = nil, false, false
}
