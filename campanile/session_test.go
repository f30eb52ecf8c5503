package campanile_test

import (
	"strings"
	"testing"

	"campanile/api"
	"campanile/campanile"
)

// said: a line, and what is answered.
type said struct {
	line, answer string
}

const bobMinor = "method Plain Bob Minor|6|&x16x16x16,12"

// opened is a tower with a method and two calls.
func opened() []said {
	return []said{{bobMinor, "ok"}, {"call b 14", "ok"}, {"call s 1234", "ok"}}
}

// touched is one with a touch, too.
func touched() []said {
	return append(opened(), said{"touch 3(ppb)", "2pb2pb2pb"})
}

// answered: is each line answered as it should be, all in one session?
func answered(t *testing.T, why string, parts ...[]said) {
	t.Helper()
	var lines, want []string
	for _, l := range parts {
		for _, s := range l {
			lines = append(lines, s.line)
			want = append(want, s.answer)
		}
	}
	got := campanile.Session(strings.Join(lines, "\n") + "\n")
	answers := strings.SplitAfter(got, "\n")
	if last := len(answers) - 1; last != len(lines) || answers[last] != "" {
		t.Errorf("%s: %d lines are answered by %q", why, len(lines), got)
		return
	}
	for i, line := range lines {
		if answers[i] != want[i]+"\n" {
			t.Errorf("%s: line %d, %q = %q, want %q", why, i, line, answers[i], want[i])
		}
	}
}

// each: is each line answered so in a session of its own, behind the lines of a beginning?
func each(t *testing.T, why string, ahead, l []said) {
	t.Helper()
	for _, s := range l {
		answered(t, why, ahead, []said{s})
	}
}

func documentsSession() []said {
	return []said{
		{"method Plain Bob Minor|6|&x16x16x16,12", "ok"},
		{"call b 14", "ok"},
		{"call s 1234", "ok"},
		{"touch 3(ppb)", "2pb2pb2pb"},
		{"lead", "123456 214365 241635 426153 462513 645231 654321 563412 536142 351624 315264 132546 135264"},
		{"head", "135264 5 yes"},
		{"line 2", "2 1 1 2 3 4 5 6 6 5 4 3 4"},
		{"prove", "108 no no 72 0"},
		{"heads", "123456 135264 156342 156423 162534 123645 123456 135264 156342"},
		{"false", "no 11 132546 214365 241635 315264 351624 426153 462513 536142 563412 645231 654321"},
		{"search 3 5", "4 3b b2s sbs 2sb"},
		{"music 1* *6 ??3*", "music 19 18 18"},
		{"band 3 2 4", "wrong 3 4 5 6"},
		{"group 214365 132546 123456", "12 yes"},
		{"colours 2 234561", "14"},
		{"circuit 2143 1324 1243", "yes 0 1 0 1 0 1 0 2 0 1 0 1 0 1 0 2 0 1 0 1 0 1 0 2"},
		{"foo", "bad"},
		{"line 7", "error 12"},
	}
}

// Q1: a session.

func TestTheDocumentsSession(t *testing.T) {
	answered(t, "the document's", documentsSession())
}

func TestTextsAreCutAtNewlines(t *testing.T) {
	for _, c := range []struct{ text, want string }{
		{"", ""},
		{"\n", "bad\n"},
		{"\n\n", "bad\nbad\n"},
		{" ", "bad\n"},
		{"foo", "bad\n"},
		{"foo\n", "bad\n"},
		{"foo\n\n", "bad\nbad\n"},
		{"\nfoo", "bad\nbad\n"},
		{"prove", "error 11\n"},
		{"prove\n", "error 11\n"},
		{"circuit 21\ncircuit 213 132", "yes 0 0\nyes 0 1 0 1 0 1\n"},
		{"circuit 21\n\ncircuit 213 132\n", "yes 0 0\nbad\nyes 0 1 0 1 0 1\n"},
		{"circuit 21\r\ncircuit 21\r", "error 4\nerror 4\n"},
		{"lead\r\n", "bad\n"},
		{"circuit 21\x00circuit 21", "error 4\n"},
		{"circuit 21\vcircuit 21\u2028circuit 21", "error 4\n"},
	} {
		if got := campanile.Session(c.text); got != c.want {
			t.Errorf("Session(%q) = %q, want %q", c.text, got, c.want)
		}
	}
}

func TestTextsThatAreTooLong(t *testing.T) {
	const first = "circuit 21\n"
	fill := func(bytes int) string { return first + strings.Repeat("x", bytes-len(first)) }
	for _, c := range []struct{ why, text, want string }{
		{"as many bytes as may be", fill(api.MaxText), "yes 0 0\nbad\n"},
		{"the last one a newline", fill(api.MaxText-1) + "\n", "yes 0 0\nbad\n"},
		{"one byte more", fill(api.MaxText + 1), "too long\n"},
		{"one byte more, a newline", fill(api.MaxText) + "\n", "too long\n"},
		{"bytes, not runes", first + strings.Repeat("é", api.MaxText/2), "too long\n"},
		{"one line of blanks", strings.Repeat(" ", api.MaxText), "bad\n"},
		{"one line of blanks and one more", strings.Repeat(" ", api.MaxText+1), "too long\n"},
		{"as many lines as may be", strings.Repeat(first, 200), strings.Repeat("yes 0 0\n", 200)},
		{"a last piece without its newline", strings.Repeat(first, 199) + "x", strings.Repeat("yes 0 0\n", 199) + "bad\n"},
		{"one line more", strings.Repeat(first, 201), "too long\n"},
		{"one line more, without its newline", strings.Repeat(first, 200) + "x", "too long\n"},
		{"one line more, a blank", strings.Repeat(first, 200) + " ", "too long\n"},
		{"empty lines", strings.Repeat("\n", 200), strings.Repeat("bad\n", 200)},
		{"one empty line more", strings.Repeat("\n", 201), "too long\n"},
		{"as many bytes, and too many lines", strings.Repeat("\n", api.MaxText), "too long\n"},
		{"one byte and lines too many", strings.Repeat("\n", api.MaxText+1), "too long\n"},
		{"far too long", strings.Repeat(first, 100000), "too long\n"},
	} {
		if got := campanile.Session(c.text); got != c.want {
			t.Errorf("%s: Session = %q, want %q", c.why, got, c.want)
		}
	}
}

// asking is a line of each sort that is right, and how many words may be put behind it.
func asking() []struct {
	line string
	more bool
} {
	return []struct {
		line string
		more bool
	}{
		{bobMinor, true}, {"call c 16", false}, {"touch p", false}, {"lead", false}, {"head", false}, {"line 2", false}, {"prove", false},
		{"heads", false}, {"false", false}, {"search 3 5", false}, {"music 1*", true}, {"band 3 2 4", false}, {"group 21 12", true},
		{"colours 2 21", true}, {"circuit 21", true},
	}
}

func lastAnswer(lines ...string) string {
	answers := strings.Split(campanile.Session(strings.Join(lines, "\n")+"\n"), "\n")
	return answers[len(answers)-2]
}

func TestWordsThatAreTooMany(t *testing.T) {
	var lines []string
	for _, s := range touched() {
		lines = append(lines, s.line)
	}
	for _, a := range asking() {
		if got := lastAnswer(append(lines, a.line)...); got == "bad" || strings.HasPrefix(got, "error") {
			t.Errorf("%q = %q", a.line, got)
		}
		for _, behind := range []string{" ", " 1", "  ", " 1 1"} {
			if got := lastAnswer(append(lines, a.line+behind)...); (got == "bad") == a.more {
				t.Errorf("%q = %q", a.line+behind, got)
			}
		}
	}
}

func TestLinesThatAreBad(t *testing.T) {
	bad := []string{
		"", " ", "  ", "foo", "foo 1 2", "x", "leads", "lea", "Lead", "LEAD", "lead.", "\tlead", "lead\t", "lead\r", "lead\x00",
		" lead", "lead ", "  lead", " lead ", " method Plain Bob|4|x", " music 1*", " circuit 21", "\ufefflead",
		"call", "call ", "call c", "call c 14 ", "call c  14", "call  c 14", "call c 14 16",
		"touch", "touch p ", "touch  p", "touch p p",
		"lead 1", "head ", "head 1", "prove ", "prove 1", "heads ", "heads 2", "false ", "false no",
		"line", "line 1 ", "line  1", "line 1 2",
		"search", "search ", "search 3", "search 3 5 ", "search 3  5", "search  3 5", "search 3 5 1",
		"band", "band ", "band 3", "band 3 2", "band 3 2 4 ", "band 3  2 4", "band 3 2 4 1",
		"group", "method\t", "method|6|x", "musik", "music\t1*", "colors 2 21", "colour 2 21", "circuit\u00a021", "\xff", "lead\xff", "\xfflead",
	}
	var lines []said
	for _, line := range bad {
		lines = append(lines, said{line, "bad"})
	}
	each(t, "ahead of all", nil, lines)
	each(t, "behind a method", opened(), lines)
	each(t, "behind a touch", touched(), lines)
	answered(t, "one behind the other", touched(), lines, []said{{"prove", "108 no no 72 0"}})
}

func TestBytesThatAreNoFirstWord(t *testing.T) {
	for b := range 256 {
		for _, line := range []string{string([]byte{byte(b)}), "lead" + string([]byte{byte(b)}), string([]byte{byte(b)}) + "lead"} {
			if b == '\n' || line == "leads" {
				continue
			}
			answered(t, "a byte", opened(), []said{{line, "bad"}})
		}
	}
}
