package music

import (
	"slices"
	"strings"

	"campanile/api"
)

// All signs are of one byte, so that a sign's index is its bell.
const signs = "1234567890ET"

// anyBell stands where a pattern asks for none.
const anyBell = -1

// pattern: for each place of a row the bell that must be there. What a star stood for is written out.
type pattern []int

func (p pattern) fits(r []int) bool {
	for place, bell := range p {
		if bell != anyBell && bell != r[place] {
			return false
		}
	}
	return true
}

// free tells how many places take any bell.
func (p pattern) free() int {
	many := 0
	for _, bell := range p {
		if bell == anyBell {
			many++
		}
	}
	return many
}

func readAll(n int, texts []string) ([]pattern, api.Errno) {
	var patterns []pattern
	for _, text := range texts {
		p, e := read(n, text)
		if e != api.OK {
			return nil, e
		}
		patterns = append(patterns, p)
	}
	return patterns, api.OK
}

func read(n int, text string) (pattern, api.Errno) {
	if n < 1 || n > api.MaxBells {
		return nil, api.ErrCount
	}
	r := reader{bells: n}
	for _, sign := range text {
		if e := r.take(sign); e != api.OK {
			return nil, e
		}
	}
	return r.end()
}

// reader: what is known of a text up to some rune.
type reader struct {
	bells  int
	there  [api.MaxBells]bool
	places pattern
	// Was there a star, and how many places ahead of it?
	star  bool
	ahead int
}

func (r *reader) take(sign rune) api.Errno {
	switch sign {
	case '*':
		return r.putStar()
	case '?':
		r.put(anyBell)
		return api.OK
	}
	// A byte that belongs to no rune comes as a rune that is no sign.
	bell := strings.IndexRune(signs, sign)
	if bell < 0 || bell >= r.bells {
		return api.ErrWord
	}
	if r.there[bell] {
		return api.ErrRow
	}
	r.there[bell] = true
	r.put(bell)
	return api.OK
}

func (r *reader) putStar() api.Errno {
	if r.star {
		return api.ErrWord
	}
	r.star, r.ahead = true, len(r.places)
	return api.OK
}

// put lays down no more than one place too many, which is enough to be refused, however long the text is.
func (r *reader) put(bell int) {
	if len(r.places) <= r.bells {
		r.places = append(r.places, bell)
	}
}

func (r *reader) end() (pattern, api.Errno) {
	left := r.bells - len(r.places)
	if left < 0 || left > 0 && !r.star {
		return nil, api.ErrCount
	}
	return slices.Insert(r.places, r.ahead, slices.Repeat(pattern{anyBell}, left)...), api.OK
}
