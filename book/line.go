package book

import (
	"bytes"
	"strconv"
	"strings"

	"campanile/api"
)

// checkOf is another one for texts of which one byte is unlike, as each step leads from unlike numbers to unlike ones.
func checkOf(text string) uint32 {
	h := uint32(5381)
	for i := range len(text) {
		h = h*33 ^ uint32(text[i])
	}
	return h
}

// firstLine is it with its newline; nothing, if no line is whole.
func firstLine(text []byte) string { return string(text[:bytes.IndexByte(text, '\n')+1]) }

// readEntry is the entry of a line, if that is right. Its parts are taken as they come: whatever is wrong with them, the entry's own line is another one.
func readEntry(line string) (entry, bool) {
	text, _, _ := strings.Cut(line, "#")
	parts := strings.SplitN(text, "|", 4)
	if len(parts) < 4 {
		return nil, false
	}
	day, _ := strconv.Atoi(parts[0])
	changes, _ := strconv.Atoi(parts[1])
	// One name more than may be is enough to be refused, however many there are.
	ringers := strings.SplitN(parts[3], ",", api.MaxRingers+1)
	e := enter(api.Record{Day: day, Changes: changes, Method: parts[2], Ringers: ringers})
	return e, fault(e) == api.OK && e.line() == line
}
