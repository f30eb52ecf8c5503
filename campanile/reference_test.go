package campanile_test

import (
	"fmt"
	"strconv"
	"strings"
	"testing"
	"unicode/utf8"

	"campanile/api"
	"campanile/band"
	"campanile/call"
	"campanile/campanile"
	"campanile/colour"
	"campanile/extent"
	"campanile/group"
	"campanile/method"
	"campanile/music"
	"campanile/place"
	"campanile/row"
	"campanile/search"
	"campanile/truth"
)

// hall is the table once more, in another way: a fault is thrown, and what a line is asked to take is taken last.
type hall struct {
	m     *api.Method
	calls []api.Call
	leads []int
}

func must(e api.Errno) {
	if e != api.OK {
		panic(e)
	}
}

func sure(is bool, otherwise api.Errno) {
	if !is {
		panic(otherwise)
	}
}

// list is numbers or words with blanks between.
func list(l any) string { return strings.Trim(fmt.Sprint(l), "[]") }

func told(rows ...[]int) string {
	var l []string
	for _, r := range rows {
		s, e := row.Text(r)
		must(e)
		l = append(l, s)
	}
	return list(l)
}

func is(b bool) string { return map[bool]string{true: "yes", false: "no"}[b] }

// number: what it is told by must be the word again.
func number(word string) int {
	n, err := strconv.Atoi(word)
	sure(err == nil && n >= 0 && n <= 999999 && strconv.Itoa(n) == word, api.ErrWord)
	return n
}

func rowsOf(words []string) [][]int {
	var rows [][]int
	for _, word := range words {
		r, e := row.Read(word)
		must(e)
		rows = append(rows, r)
	}
	return rows
}

// wordsBehind is how many words must stand behind a first one; so many and more, if it is below 0: -1 none, -2 one.
func wordsBehind() map[string]int {
	return map[string]int{
		"method": -1, "call": 2, "touch": 1, "lead": 0, "head": 0, "line": 1, "prove": 0, "heads": 0, "false": 0, "search": 2,
		"music": -1, "band": 3, "group": -2, "colours": -1, "circuit": -1,
	}
}

func (h *hall) answer(line string) (answer string) {
	defer func() {
		if e, thrown := recover().(api.Errno); thrown {
			answer = fmt.Sprint("error ", int(e))
		}
	}()
	first, rest, _ := strings.Cut(line, " ")
	behind := strings.Count(line, " ")
	many, known := wordsBehind()[first]
	if !known || many >= 0 && behind != many || many < 0 && behind < -1-many {
		return "bad"
	}
	words := strings.Split(line, " ")[1:]
	switch first {
	case "method", "group", "colours", "circuit":
	case "prove", "heads", "music", "band":
		sure(h.leads != nil, api.ErrState)
	default:
		sure(h.m != nil, api.ErrState)
	}
	switch first {
	case "method", "call", "touch":
		return h.take(first, rest, words)
	case "group", "colours", "circuit":
		return rowsAnswer(first, words)
	case "prove", "heads", "music", "band":
		return h.touchAnswer(first, words)
	}
	return h.methodAnswer(first, words)
}

func (h *hall) take(first, rest string, words []string) string {
	switch first {
	case "method":
		m, e := method.Read(rest)
		must(e)
		*h = hall{m: &m, calls: []api.Call{{Sign: 'p'}}}
		return "ok"
	case "call":
		sign := []rune(words[0])
		sure(len(sign) == 1 && utf8.ValidString(words[0]), api.ErrWord)
		changes, e := place.Parse(h.m.Bells, words[1])
		must(e)
		calls := append([]api.Call{}, h.calls...)
		calls = append(calls, api.Call{Sign: sign[0], Changes: changes})
		must(call.Check(*h.m, calls))
		h.calls = calls
		return "ok"
	}
	leads, e := call.Parse(h.calls, words[0])
	must(e)
	must(call.May(*h.m, h.calls, leads))
	h.leads = leads
	s, e := call.Print(h.calls, leads)
	must(e)
	return s
}

func (h *hall) methodAnswer(first string, words []string) string {
	switch first {
	case "lead":
		rows, e := method.Lead(*h.m)
		must(e)
		return told(rows...)
	case "head":
		head, leads, e := method.Head(*h.m)
		must(e)
		mirrored, _ := method.Mirrored(*h.m)
		return fmt.Sprint(told(head), " ", leads, " ", is(mirrored))
	case "line":
		l, e := method.Line(*h.m, number(words[0])-1)
		must(e)
		return list(l)
	case "false":
		heads, self, e := truth.False(*h.m)
		must(e)
		answer := fmt.Sprint(is(self), " ", len(heads))
		for i := 0; i < 20 && i < len(heads); i++ {
			answer += " " + told(heads[i])
		}
		return answer
	}
	touches, e := search.Touches(*h.m, h.calls, number(words[0]), number(words[1]))
	must(e)
	answer := strconv.Itoa(len(touches))
	for _, leads := range touches {
		s, e := call.Print(h.calls, leads)
		must(e)
		answer += " " + s
	}
	return answer
}

func (h *hall) touchAnswer(first string, words []string) string {
	rows, e := call.Rows(*h.m, h.calls, h.leads)
	must(e)
	switch first {
	case "prove":
		r, e := truth.Prove(*h.m, h.calls, h.leads)
		must(e)
		return fmt.Sprint(r.Changes, " ", is(r.Round), " ", is(r.True), " ", r.Again, " ", r.Before)
	case "heads":
		heads, e := truth.Heads(*h.m, h.calls, h.leads)
		must(e)
		return told(heads...)
	case "music":
		many, e := music.Count(h.m.Bells, words, rows)
		must(e)
		return strings.TrimSuffix("music "+list(many), " ")
	}
	slip := api.Slip{At: number(words[0]), Place: number(words[1]), For: number(words[2])}
	rung, e := band.Ring(*h.m, h.calls, h.leads, []api.Slip{slip})
	must(e)
	return "wrong " + list(band.Wrong(rung, rows))
}

func rowsAnswer(first string, words []string) string {
	switch first {
	case "group":
		rows := rowsOf(words)
		sure(len(rows) >= 2, api.ErrShort)
		g, e := group.Make(len(rows[0]), rows[:len(rows)-1])
		must(e)
		has, e := g.Has(rows[len(rows)-1])
		must(e)
		return fmt.Sprint(g.Size(), " ", is(has))
	case "colours":
		sure(len(words) >= 2, api.ErrShort)
		k, rows := number(words[0]), rowsOf(words[1:])
		many, e := colour.Count(len(rows[0]), rows, k)
		must(e)
		return strconv.Itoa(many)
	}
	rows := rowsOf(words)
	sure(len(rows) >= 1, api.ErrShort)
	way, found, e := extent.Circuit(len(rows[0]), rows)
	must(e)
	return strings.TrimSuffix(is(found)+" "+list(way), " ")
}

func reference(text string) string {
	var h hall
	answers, lines := "", 0
	for text != "" {
		line, rest, _ := strings.Cut(text, "\n")
		answers += h.answer(line) + "\n"
		text = rest
		lines++
	}
	if lines > 200 {
		return "too long\n"
	}
	return answers
}

func compare(t *testing.T, text string) {
	t.Helper()
	if got, want := campanile.Session(text), reference(text); got != want {
		t.Errorf("Session(%q) = %q, want %q", text, got, want)
	}
}

// drawn numbers, the same each time.
func drawn(number uint64) func(most int) int {
	return func(most int) int {
		number = number*6364136223846793005 + 1442695040888963407
		return int(number >> 33 % uint64(most))
	}
}
