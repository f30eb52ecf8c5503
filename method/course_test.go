package method

import "testing"

// The bounds let no method be that long, so the edge is tried on the numbers alone.
func TestCourseFitsUpToMaxRows(t *testing.T) {
	for _, c := range []struct {
		leads, changes int
		want           bool
	}{{1, 1, true}, {60, 200, true}, {100, 200, true}, {20000, 1, true}, {101, 200, false}, {20001, 1, false}, {3, 6667, false}} {
		if got := courseFits(c.leads, c.changes); got != c.want {
			t.Errorf("courseFits(%d, %d) = %t", c.leads, c.changes, got)
		}
	}
}
