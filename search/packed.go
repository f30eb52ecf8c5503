package search

import "campanile/api"

// A packed row may be a key and is copied as a value. Places behind its last bell hold their own number, so that rows of all lengths are changed alike.
type packed [api.MaxBells]int8

func rounds() packed {
	var p packed
	for i := range p {
		p[i] = int8(i)
	}
	return p
}

func pack(r []int) packed {
	p := rounds()
	for i, bell := range r {
		p[i] = int8(bell)
	}
	return p
}

// times is p, changed by q.
func (p packed) times(q packed) packed {
	var changed packed
	for i, place := range q {
		changed[i] = p[place]
	}
	return changed
}
