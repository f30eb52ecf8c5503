package group

// A chain is a group, held as far fewer rows than it may have: each of its rows is, in one way only, a row of the first link's, changed by one of the second's, and so on. A link's rows leave the bases of all links ahead in their own places.
type chain []link

type link struct {
	base int
	// By the bell: a row that has it in the base's place.
	brings map[int]packed
	// The keys of brings, as they were come to: an order that no map's own order touches.
	bells []int
	gens  []packed
}

// newChain asks base which bell each link has as its own; it must name each bell once.
func newChain(bells int, gens []packed, base func(level int) int) chain {
	c := make(chain, bells)
	for level := range c {
		bell := base(level)
		c[level] = link{base: bell, brings: map[int]packed{bell: rounds()}, bells: []int{bell}}
	}
	for _, gen := range gens {
		c.take(0, gen)
	}
	return c
}

// has says whether a row comes of the links from a level on; it must leave the bases ahead in their places.
func (c chain) has(level int, p packed) bool {
	for _, l := range c[level:] {
		bring, ok := l.brings[int(p[l.base])]
		if !ok {
			return false
		}
		p = bring.back().times(p)
	}
	return true
}

// take makes a row one more generator of a level. Links behind the level are whole whenever it is called, so that each generator makes its group greater.
func (c chain) take(level int, p packed) {
	if c.has(level, p) {
		return
	}
	l := &c[level]
	l.gens = append(l.gens, p)
	// Bells that are come to on the way are brought on by all generators already, the new one too; the loop doesn't see them.
	for _, bell := range l.bells {
		c.bring(level, p.times(l.brings[bell]))
	}
}

// bring is told of a row of a level: it brings a new bell to the base's place, or says what the next link must have.
func (c chain) bring(level int, p packed) {
	l := &c[level]
	bell := int(p[l.base])
	if bring, ok := l.brings[bell]; ok {
		c.take(level+1, bring.back().times(p))
		return
	}
	l.brings[bell] = p
	l.bells = append(l.bells, bell)
	for _, gen := range l.gens {
		c.bring(level, gen.times(p))
	}
}

func (c chain) size() int {
	many := 1
	for _, l := range c {
		many *= len(l.bells)
	}
	return many
}

// all are its rows, in no order that matters.
func (c chain) all() []packed {
	rows := []packed{rounds()}
	for level := len(c) - 1; level >= 0; level-- {
		l := c[level]
		var more []packed
		for _, bell := range l.bells {
			for _, p := range rows {
				more = append(more, l.brings[bell].times(p))
			}
		}
		rows = more
	}
	return rows
}
