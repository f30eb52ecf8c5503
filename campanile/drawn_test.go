package campanile_test

import (
	"strconv"
	"strings"
	"testing"

	"campanile/api"
	"campanile/campanile"
)

// Q1: numbers.

// notNumbers are words that no number is told by.
func notNumbers() []string {
	return []string{
		"", "00", "01", "007", "0000000", "1000000", "0999999", "9999999", "10000000000000000000000", "-1", "-0", "+1", "+0", "--1", "1-", "1+",
		"x", "1x", "x1", "0x1", "1e3", "1.0", "1.", ".5", "1,000", "1_0", "'1'", "\t1", "1\t", "1\r", "1\x00", "\xff", "1\xff", "\xff1", "\xc2", "１", "٣", "²", "½", "Ⅳ", "−1", "1\u0301", "\u200b1", "E", "T",
	}
}

func TestWordsThatAreNoNumbers(t *testing.T) {
	for _, word := range notNumbers() {
		for _, line := range []string{"line N", "search N 5", "search 3 N", "band N 2 4", "band 3 N 4", "band 3 2 N", "colours N 21", "search N N", "band N N N"} {
			answered(t, "no number", touched(), []said{{strings.ReplaceAll(line, "N", word), "error 4"}})
		}
	}
	// All are read first.
	each(t, "no number", touched(), []said{
		{"search 0 x", "error 4"}, {"search x 0", "error 4"}, {"search 999999 1000000", "error 4"}, {"search 25 01", "error 4"},
		{"band 999999 0 x", "error 4"}, {"band x 0 0", "error 4"}, {"band 999999 x 0", "error 4"}, {"colours x 11", "error 4"}, {"colours 9 x", "error 4"},
	})
}

func TestNumbersAtTheirEdges(t *testing.T) {
	each(t, "numbers", touched(), []said{
		{"line 0", "error 12"}, {"line 1", "1 2 3 4 5 6 6 5 4 3 2 1 1"}, {"line 10", "error 12"}, {"line 999999", "error 12"}, {"line 100000", "error 12"}, {"line 1000000", "error 4"},
		{"search 0 0", "error 1"}, {"search 999999 999999", "error 1"}, {"search 3 999999", "error 1"}, {"search 999999 5", "error 1"}, {"search 3 1000000", "error 4"}, {"search 1000000 5", "error 4"},
		{"band 0 2 4", "wrong 0 1 2 3"}, {"band 10 2 1", "wrong 10"}, {"band 999999 2 4", "error 12"}, {"band 1000000 2 4", "error 4"}, {"band 3 0 4", "error 12"}, {"band 3 2 10", "wrong 3 4 5 6 7 8 9 10 11 12"},
		{"colours 0 21", "0"}, {"colours 1 21", "1"}, {"colours 10 21", "error 12"}, {"colours 999999 21", "error 12"}, {"colours 1000000 21", "error 4"},
	})
}

func TestAllNumbersOfALine(t *testing.T) {
	for n := range 100 {
		word := strconv.Itoa(n)
		for _, line := range []string{"line N", "search 3 N", "search N 3", "band N 2 4", "band 3 N 4", "band 3 2 N", "colours N 21"} {
			compare(t, bobMinor+"\ncall b 14\ntouch ppb\n"+strings.ReplaceAll(line, "N", word))
		}
	}
}

// Q1: sessions that are drawn.

func lines() []string {
	return []string{
		bobMinor, bobMinor, "method Grandsire|5|&3.1.5.1.5,1", "method Little|4|x14x14x14x12", "method a|3|3.1", "method a|2|x", "method a|12|x1Tx1T", "method a|6|" + strings.Repeat("x16", 100),
		"method", "method x", "method a|6|y", "method  a|6|x", "method a|13|x", "method a|5|x",
		"call b 14", "call b 14", "call s 1234", "call é 16", "call c x", "call d 3.1", "call p 12", "call bb 14", "call  14", "call b ", "call \xff 14", "call 5 14", "call b 13", "call e 1", "call b", "call b 14 14",
		"touch p", "touch 5p", "touch 3(ppb)", "touch 2(pbs)", "touch 3b", "touch écd", "touch x", "touch 99p2p", "touch ", "touch 0", "touch", "touch p p", "touch \xff", "touch 8p9p",
		"lead", "lead", "lead 1", "lead ", " lead", "head", "head", "head 1", "line 1", "line 2", "line 5", "line 12", "line 0", "line 7", "line 01", "line x", "line", "line 1 1", "line ",
		"prove", "prove", "prove 1", "heads", "heads", "heads ", "false", "false", "false 1",
		"search 1 5", "search 2 9", "search 3 9", "search 4 50", "search 0 1", "search 25 1", "search 3 51", "search 3 x", "search 3", "search 3 1 1", "search 6 2",
		"music", "music *", "music 1* *6 ??3*", "music 1*", "music z", "music ", "music 11*", "music ?",
		"band 3 2 4", "band 0 1 1", "band 1 2 1", "band 0 9 1", "band 999 1 1", "band x 1 1", "band 1 1", "band 1 1 0", "band 24 1 9",
		"group 21 12", "group 214365 132546 123456", "group 2134 1342 4321", "group 1", "group", "group x", "group 21 123", "group 1 1 ",
		"colours 2 2341", "colours 3 4321 2341", "colours 9 1", "colours 2", "colours", "colours 2 x", "colours x 1", "colours 2 12 21",
		"circuit 213 132", "circuit 2143 1324 1243", "circuit 2143 1324", "circuit", "circuit 231", "circuit 12345", "circuit x", "circuit 21 213",
		"foo", "", " ", "Lead", "\xff", "leads",
	}
}

func TestDrawnSessions(t *testing.T) {
	next, all := drawn(83), lines()
	for range 600 {
		text := ""
		if next(4) > 0 {
			text = bobMinor + "\ncall b 14\ncall s 1234\ntouch 3(ppb)\n"
		}
		for range next(16) {
			text += all[next(len(all))] + "\n"
		}
		if next(3) == 0 {
			text = strings.TrimSuffix(text, "\n")
		}
		compare(t, text)
	}
}

func TestEachLineBehindEachOther(t *testing.T) {
	all := lines()
	for _, ahead := range all {
		var text strings.Builder
		// Not all of them fit into one session.
		for i, line := range all {
			if i%9 == 0 {
				compare(t, text.String())
				text.Reset()
				text.WriteString(bobMinor + "\ncall b 14\ntouch ppb\n")
			}
			text.WriteString(ahead + "\n" + line + "\n")
		}
		compare(t, text.String())
	}
}

// Each byte of the document's session turned into others, left out, or put in.
func TestBytesThatAreTurned(t *testing.T) {
	var text string
	for _, s := range documentsSession() {
		text += s.line + "\n"
	}
	next := drawn(89)
	for i := range len(text) {
		for _, b := range []byte{' ', '\n', '0', '|', 0, 0xff, byte(next(256)), byte('0' + next(10)), byte('a' + next(26))} {
			compare(t, text[:i]+string([]byte{b})+text[i+1:])
		}
		compare(t, text[:i]+text[i+1:])
		compare(t, text[:i]+text[i:i+1]+text[i:])
		compare(t, text[:i])
	}
}

// X1: whatever it is given, it ends, and each line is answered by one.
func TestEveryLineIsAnswered(t *testing.T) {
	next := drawn(97)
	for range 2000 {
		bytes := make([]byte, next(200))
		for i := range bytes {
			bytes[i] = byte(next(256))
			if next(3) == 0 {
				bytes[i] = " \n|x16(p"[next(8)]
			}
		}
		text := string(bytes)
		pieces := strings.Count(text, "\n")
		if !strings.HasSuffix(text, "\n") && text != "" {
			pieces++
		}
		if got := campanile.Session(text); strings.Count(got, "\n") != pieces || strings.HasPrefix(got, "\n") {
			t.Errorf("Session(%q) = %q", text, got)
		}
	}
}

// As many lines as may be, of those that ask for the most.
func TestSessionsThatAskForMuch(t *testing.T) {
	if testing.Short() {
		t.Skip()
	}
	head := "method a|12|" + strings.Repeat("x1T", 100) + "\ncall b 14\ncall c 16\ntouch 99pp\n"
	for _, line := range []string{"prove\n", "search 24 50\n", "music ?*\n", "group 234567890ET1 2134567890ET 1234567890ET\n"} {
		many := min(196, (api.MaxText-len(head))/len(line))
		got := campanile.Session(head + strings.Repeat(line, many))
		answers := strings.Split(got, "\n")
		if len(answers) != 4+many+1 {
			t.Fatalf("%q: %d answers", line, len(answers))
		}
		for _, a := range answers[4 : 4+many] {
			if a != answers[4] || a == "bad" || strings.HasPrefix(a, "error") {
				t.Fatalf("%q = %q, then %q", line, answers[4], a)
			}
		}
	}
}
