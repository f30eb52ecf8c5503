package campanile_test

import (
	"slices"
	"strings"
	"sync"
	"testing"

	"campanile/campanile"
)

// Q1: what lines need, and what stays.

// needMethod are lines that ask for a method, right ones and such as would be refused otherwise.
func needMethod() []string {
	return []string{
		"call b 14", "call bb 14", "call  14", "call b 13", "call p ", "call \xff z", "touch p", "touch ", "touch 0", "touch x", "touch )",
		"lead", "head", "line 1", "line 0", "line 99", "line x", "line ", "line 1000000", "false",
		"search 3 5", "search 0 0", "search x y", "search  ",
	}
}

// needTouch are lines that ask for a touch.
func needTouch() []string {
	return []string{"prove", "heads", "music", "music 1*", "music z", "music ", "music 11", "band 3 2 4", "band 0 0 0", "band x y z", "band   ", "band 1000000 1 1"}
}

// needNothing are lines that are answered the same, whatever was ahead.
func needNothing() []said {
	return []said{
		{"group 21 12", "2 yes"}, {"group 1", "error 5"}, {"group x", "error 4"}, {"colours 2 21", "3"}, {"colours", "error 5"},
		{"circuit 21", "yes 0 0"}, {"circuit", "error 5"}, {"circuit 12", "no"}, {"method", "error 5"}, {"method x", "error 5"}, {"foo", "bad"}, {"prove 1", "bad"},
	}
}

func refusedAs(answer string, lines ...string) []said {
	var l []said
	for _, line := range lines {
		l = append(l, said{line, answer})
	}
	return l
}

func TestLinesThatNeedMore(t *testing.T) {
	all := refusedAs("error 11", slices.Concat(needMethod(), needTouch())...)
	each(t, "ahead of a method", nil, all)
	answered(t, "ahead of a method, one behind the other", all, needNothing())
	each(t, "behind a method that isn't read", []said{{"method x|6|y", "error 4"}}, all)
	each(t, "ahead of a touch", opened(), refusedAs("error 11", needTouch()...))
	each(t, "behind a touch that may not be", append(opened(), said{"touch x", "error 4"}), refusedAs("error 11", needTouch()...))
	each(t, "ahead of a method", nil, needNothing())
	each(t, "behind a method", opened(), needNothing())
	each(t, "behind a touch", touched(), needNothing())
	// A bad line is bad even where there is no method.
	each(t, "ahead of a method", nil, refusedAs("bad", "call b", "touch", "lead 1", "head 1", "line", "prove 1", "heads 1", "false 1", "search 1", "band 1 1"))
	for _, line := range needMethod() {
		if got := lastAnswer(bobMinor, line); got == "error 11" || got == "bad" {
			t.Errorf("behind a method: %q = %q", line, got)
		}
	}
	for _, line := range needTouch() {
		if got := lastAnswer(bobMinor, "touch p", line); got == "error 11" || got == "bad" {
			t.Errorf("behind a touch: %q = %q", line, got)
		}
	}
}

func TestANewMethodIsWithoutTheOldOnesCallsAndTouch(t *testing.T) {
	minimus := []said{{"method Little|4|x14x14x14x12", "ok"}}
	answered(t, "unlike", touched(), minimus, refusedAs("error 11", needTouch()...), []said{
		{"lead", "1234 2143 2413 4231 4321 3412 3142 1324 1342"},
		{"touch b", "error 4"},
		{"touch s", "error 4"},
		{"touch 3p", "3p"},
		{"prove", "24 yes yes 0 0"},
		{"call b 14", "ok"},
		{"touch b", "b"},
		{"heads", "1234"},
	})
	answered(t, "the same again", touched(), []said{
		{bobMinor, "ok"}, {"prove", "error 11"}, {"touch b", "error 4"}, {"call b 14", "ok"}, {"prove", "error 11"}, {"touch 2b", "2b"}, {"prove", "24 no yes 0 0"},
	})
	answered(t, "more calls than may be, in two methods", opened(), []said{
		{"call c 14", "ok"}, {"call d 14", "ok"}, {"call e 14", "ok"}, {"call f 14", "ok"}, {"call g 14", "ok"}, {"call h 14", "error 1"},
		{bobMinor, "ok"}, {"call h 14", "ok"}, {"touch h", "h"}, {"touch g", "error 4"},
	})
}

func TestAMethodThatIsRefusedLeavesAllAsItWas(t *testing.T) {
	for _, line := range []string{"method", "method ", "method x", "method a|6|x|", "method  a|6|x", "method a|06|x", "method a|1|x", "method a|6|y", "method a|5|x", "method a|6|"} {
		answered(t, line, touched(), []said{{line, lastAnswer(line)}}, documentsSession()[4:])
		if got := lastAnswer(line); !strings.HasPrefix(got, "error ") {
			t.Errorf("%q = %q", line, got)
		}
	}
}

func TestACallThatIsRefusedLeavesTheOthers(t *testing.T) {
	for _, c := range []struct {
		line string
		// What is answered ahead of a call `c`, and behind it.
		first, again string
	}{
		{"call p 14", "error 8", "error 8"}, {"call b 16", "error 8", "error 8"}, {"call c 13", "error 6", "error 6"}, {"call 5 14", "error 4", "error 4"},
		{"call cc 14", "error 4", "error 4"}, {"call  14", "error 4", "error 4"}, {"call c ", "error 5", "error 5"}, {"call c " + strings.Repeat("x", 13), "error 1", "error 8"},
	} {
		answered(t, c.line, touched(), []said{{c.line, c.first}}, documentsSession()[4:], []said{
			{"touch c", "error 4"}, {"call c 16", "ok"}, {c.line, c.again}, {"touch bsc", "bsc"}, {"search 1 5", "1 c"}, {"call d 1456", "ok"}, {"touch dcsbp", "dcsbp"},
		})
	}
}

func TestACallBehindATouchLeavesIt(t *testing.T) {
	answered(t, "a call more", touched(), []said{
		{"call c 16", "ok"}, {"prove", "108 no no 72 0"}, {"heads", "123456 135264 156342 156423 162534 123645 123456 135264 156342"},
		{"search 3 9", "4 3b b2s sbs 2sb"}, {"search 1 5", "1 c"},
	})
}

func TestATouchThatIsRefusedLeavesTheOneAhead(t *testing.T) {
	for _, s := range []said{
		{"touch x", "error 4"}, {"touch ", "error 5"}, {"touch 0p", "error 12"}, {"touch 100p", "error 12"}, {"touch p)", "error 4"}, {"touch (p", "error 5"},
		{"touch ()", "error 4"}, {"touch ((((((((p", "error 13"}, {"touch 99p99p99p99p5p", "error 3"}, {"touch p\xff", "error 4"},
	} {
		answered(t, s.line, touched(), []said{s}, documentsSession()[4:])
	}
	long := []said{{"method Long|6|" + strings.Repeat("x16", 100), "ok"}, {"touch 99pp", "99pp"}}
	prove := []said{{"prove", "20000 no no 12 0"}}
	answered(t, "more rows than may be", long, prove, []said{{"touch 99p2p", "error 3"}}, prove, []said{{"touch 2p", "2p"}, {"prove", "400 no no 12 0"}})
	answered(t, "a new one", touched(), []said{{"touch 5p", "5p"}, {"prove", "60 yes yes 0 0"}, {"touch x", "error 4"}, {"prove", "60 yes yes 0 0"}})
}

// What a line answers changes none of the others, unless it is a method, a call or a touch that is taken.
func TestLinesLeaveLaterAnswersAsTheyAre(t *testing.T) {
	base := documentsSession()
	between := []string{"method", "method a|6|y", "call b 14", "call cc 14", "touch x", "touch 0", "search 0 0", "search 24 50", "music 1*1", "band 0 0 0", "group 1 21", "colours 9 1", "circuit 231", "", "lead 1", "line 99"}
	for _, s := range base[4:] {
		between = append(between, s.line)
	}
	for at := 3; at <= len(base); at++ {
		for _, line := range between {
			var ahead []string
			for _, s := range base[:at] {
				ahead = append(ahead, s.line)
			}
			s := said{line, lastAnswer(append(ahead, line)...)}
			answered(t, line, base[:at], []said{s, s}, base[at:])
		}
	}
}

// X2.

func TestSessionsKeepNothing(t *testing.T) {
	texts := []string{"prove", "lead", "touch p", "call b 14", "search 3 5", "music 1*"}
	for range 3 {
		answered(t, "the document's", documentsSession())
		for _, text := range texts {
			if got := campanile.Session(text); got != "error 11\n" {
				t.Errorf("Session(%q) = %q behind another session", text, got)
			}
		}
	}
}

func TestSessionsAtOnce(t *testing.T) {
	var sessions sync.WaitGroup
	for range 8 {
		sessions.Go(func() {
			answered(t, "at once", documentsSession())
			answered(t, "at once", needNothing())
		})
	}
	sessions.Wait()
}
