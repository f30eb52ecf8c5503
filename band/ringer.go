package band

import (
	"slices"

	"campanile/api"
	"campanile/place"
)

// ringer: what one knows who rings a bell.
type ringer struct {
	bell int
	// Of each call the lead that ends with it: its changes, as rows.
	leads [][][]int
	slips []api.Slip
	// Where the bell is by the method, from 0 on, whatever slips there are.
	place int
	// The changes of this lead that are still to come.
	left [][]int
}

// leadsBy: what all ringers know of a method and its calls.
func leadsBy(m api.Method, calls []api.Call) [][][]int {
	var leads [][][]int
	for _, c := range calls {
		plain := m.Changes[:len(m.Changes)-len(c.Changes)]
		var lead [][]int
		for _, places := range slices.Concat(plain, c.Changes) {
			change, _ := place.Row(m.Bells, places)
			lead = append(lead, change)
		}
		leads = append(leads, lead)
	}
	return leads
}

// listen begins another lead where a call is made. A call is there ahead of its row, so that whoever is late doesn't miss it.
func (r *ringer) listen(calls <-chan int) {
	select {
	case c := <-calls:
		r.left = r.leads[c]
	default:
	}
}

// heardAt is the place in which the bell is heard in a row: each slip begins where the one ahead has put it.
func (r *ringer) heardAt(number int) int {
	at := r.place
	for _, s := range r.slips {
		if number < s.At || number-s.At >= s.For {
			continue
		}
		switch at {
		case s.Place - 1:
			at++
		case s.Place:
			at--
		}
	}
	return at
}

// goOn changes places. Behind the last row there is no lead any more.
func (r *ringer) goOn() {
	if len(r.left) == 0 {
		return
	}
	// A change is undone by itself: so what it has in a place is where the bell of that place goes, too.
	r.place = r.left[0][r.place]
	r.left = r.left[1:]
}
