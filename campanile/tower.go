package campanile

import (
	"strings"

	"campanile/api"
)

// tower: what was answered so far, and what later lines hang on.
type tower struct {
	strings.Builder
	method api.Method
	calls  []api.Call // none as long as there is no method
	touch  []int      // none as long as there is no touch
}

// need: what must be there ahead of a line. A touch can't be without a method.
type need int

const (
	nothing need = iota
	aMethod
	aTouch
)

// has says how far the tower has come.
func (t *tower) has() need {
	if len(t.touch) > 0 {
		return aTouch
	}
	if len(t.calls) > 0 {
		return aMethod
	}
	return nothing
}

// anyNumber of words: a text that isn't too long has fewer.
const anyNumber = api.MaxText

// order: a first word, how many words may stand behind it, what it needs and what it does.
type order struct {
	word        string
	least, most int
	needs       need
	do          func(t *tower, words []string) ([]string, api.Errno)
}

func orders() []order {
	return []order{
		{"method", 0, anyNumber, nothing, (*tower).takeMethod},
		{"call", 2, 2, aMethod, (*tower).takeCall},
		{"touch", 1, 1, aMethod, (*tower).takeTouch},
		{"lead", 0, 0, aMethod, (*tower).lead},
		{"head", 0, 0, aMethod, (*tower).head},
		{"line", 1, 1, aMethod, (*tower).line},
		{"prove", 0, 0, aTouch, (*tower).prove},
		{"heads", 0, 0, aTouch, (*tower).heads},
		{"false", 0, 0, aMethod, (*tower).falseHeads},
		{"search", 2, 2, aMethod, (*tower).search},
		{"music", 0, anyNumber, aTouch, (*tower).music},
		{"band", 3, 3, aTouch, (*tower).band},
		{"group", 1, anyNumber, nothing, (*tower).group},
		{"colours", 0, anyNumber, nothing, (*tower).colours},
		{"circuit", 0, anyNumber, nothing, (*tower).circuit},
	}
}

// find is the order of a first word with so many words behind it.
func find(word string, behind int) (order, bool) {
	for _, o := range orders() {
		if o.word == word && behind >= o.least && behind <= o.most {
			return o, true
		}
	}
	return order{}, false
}

func (t *tower) answer(line string) {
	words := strings.Split(line, " ")
	o, is := find(words[0], len(words)-1)
	if !is {
		t.tell("bad")
		return
	}
	answer, e := t.obey(o, words[1:])
	if e != api.OK {
		answer = append([]string{"error"}, digits(int(e))...)
	}
	t.tell(answer...)
}

func (t *tower) obey(o order, words []string) ([]string, api.Errno) {
	if t.has() < o.needs {
		return nil, api.ErrState
	}
	return o.do(t, words)
}

func (t *tower) tell(words ...string) {
	t.WriteString(strings.Join(words, " "))
	t.WriteByte('\n')
}
