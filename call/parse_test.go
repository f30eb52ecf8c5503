package call_test

import (
	"regexp"
	"slices"
	"strconv"
	"strings"
	"testing"
	"unicode/utf8"

	"campanile/api"
	"campanile/call"
)

// A2.

// nested is a text in so many brackets.
func nested(depth int, text string) string {
	return strings.Repeat("(", depth) + text + strings.Repeat(")", depth)
}

// most is as many leads as may be.
const most = "99p99p99p99p4p"

func TestParse(t *testing.T) {
	for _, c := range []struct {
		text  string
		leads []int
	}{
		{"p", []int{0}},
		{"pbs", []int{0, 1, 2}},
		{"sspb", []int{2, 2, 0, 1}},
		{"1p", []int{0}},
		{"2p", []int{0, 0}},
		{"2pb", []int{0, 0, 1}},
		{"p2b", []int{0, 1, 1}},
		{"9b", of(9, 1)},
		{"10b", of(10, 1)},
		{"12b", of(12, 1)},
		{"20b", of(20, 1)},
		{"90b", of(90, 1)},
		{"98p", of(98, 0)},
		{"99p", of(99, 0)},
		{"(p)", []int{0}},
		{"1(p)", []int{0}},
		{"(pb)(s)", []int{0, 1, 2}},
		{"3(ppb)", []int{0, 0, 1, 0, 0, 1, 0, 0, 1}},
		{"2(p)b", []int{0, 0, 1}},
		{"2(pb)3s", []int{0, 1, 0, 1, 2, 2, 2}},
		{"s2(p3(bs)p)", []int{2, 0, 1, 2, 1, 2, 1, 2, 0, 0, 1, 2, 1, 2, 1, 2, 0}},
		{"2((p)2(b))", []int{0, 1, 1, 0, 1, 1}},
		{"2(2(2(p)b)s)", []int{0, 0, 1, 0, 0, 1, 2, 0, 0, 1, 0, 0, 1, 2}},
		{"(2p)", []int{0, 0}},
		{"2(2p2b)", []int{0, 0, 1, 1, 0, 0, 1, 1}},
		{"99(p)", of(99, 0)},
		{"10(10p)", of(100, 0)},
		{nested(api.MaxNest, "p"), []int{0}},
		{strings.Repeat("2(", api.MaxNest) + "p" + strings.Repeat(")", api.MaxNest), of(64, 0)},
		{nested(api.MaxNest, "p") + nested(api.MaxNest, "b"), []int{0, 1}},
		{"(" + strings.Repeat(nested(api.MaxNest-1, "s"), 3) + ")", []int{2, 2, 2}},
	} {
		if l, e := call.Parse(usual(), c.text); e != api.OK || !slices.Equal(l, c.leads) {
			t.Errorf("Parse(%q) = %v, %d, want %v", c.text, l, e, c.leads)
		}
	}
}

type wrongText struct {
	name, text string
	e          api.Errno
}

func tryWrong(t *testing.T, calls []api.Call, l []wrongText) {
	t.Helper()
	for _, w := range l {
		if got, e := call.Parse(calls, w.text); e != w.e || len(got) != 0 {
			t.Errorf("%s: Parse(%.40q) = %v, %d, want %d", w.name, w.text, got, e, w.e)
		}
	}
}

func TestParseRefuses(t *testing.T) {
	tryWrong(t, usual(), []wrongText{
		{"nothing", "", api.ErrShort},
		{"a number alone", "2", api.ErrShort},
		{"a number of two digits alone", "99", api.ErrShort},
		{"a number last", "pb3", api.ErrShort},
		{"a number last in a bracket that is open", "(p3", api.ErrShort},
		{"a bracket that is open", "(", api.ErrShort},
		{"that, with a number", "2(", api.ErrShort},
		{"that, with an item", "(p", api.ErrShort},
		{"that, behind an item", "p(", api.ErrShort},
		{"one of two that is open", "((p)", api.ErrShort},
		{"MaxNest that are open", strings.Repeat("(", api.MaxNest), api.ErrShort},
		{"a nought", "0p", api.ErrValue},
		{"a nought alone", "0", api.ErrValue},
		{"two noughts", "00p", api.ErrValue},
		{"a nought ahead", "02p", api.ErrValue},
		{"a nought ahead of a bracket", "0(p)", api.ErrValue},
		{"a nought behind an item", "p0p", api.ErrValue},
		{"a nought behind a bracket", "(p)0p", api.ErrValue},
		{"a nought in a bracket", "(0p)", api.ErrValue},
		{"one more than MaxTimes", "100p", api.ErrValue},
		{"one more, alone", "100", api.ErrValue},
		{"one more, ahead of a bracket", "100(p)", api.ErrValue},
		{"990", "990p", api.ErrValue},
		{"999", "999p", api.ErrValue},
		{"far above", strings.Repeat("9", 100) + "p", api.ErrValue},
		{"a number that would wrap round", "18446744073709551617p", api.ErrValue},
		{"a sign that is none", "x", api.ErrWord},
		{"a large letter", "P", api.ErrWord},
		{"a blank", "p b", api.ErrWord},
		{"a blank first", " p", api.ErrWord},
		{"a blank behind a number", "2 p", api.ErrWord},
		{"a newline last", "p\n", api.ErrWord},
		{"a nought byte", "p\x00", api.ErrWord},
		{"plus", "+2p", api.ErrWord},
		{"minus", "-2p", api.ErrWord},
		{"a digit of two bytes", "٢p", api.ErrWord},
		{"a digit of three bytes", "２p", api.ErrWord},
		{"square brackets", "[p]", api.ErrWord},
		{"a bracket of three bytes", "（p）", api.ErrWord},
		{"a sign that is none, in a bracket", "(px)", api.ErrWord},
		{"a sign that is none, with a number", "2x", api.ErrWord},
		{"a bracket that closes none", ")", api.ErrWord},
		{"that, behind an item", "p)", api.ErrWord},
		{"that, behind a bracket", "(p))", api.ErrWord},
		{"that, behind a number", "2)", api.ErrWord},
		{"a bracket that closes no items", "()", api.ErrWord},
		{"that, with a number", "2()", api.ErrWord},
		{"that, in a bracket", "(())", api.ErrWord},
		{"that, behind items", "p()", api.ErrWord},
		{"that, in a bracket behind items", "(p())", api.ErrWord},
		{"a bracket that closes behind a number", "(2)", api.ErrWord},
		{"that, behind items", "(p2)", api.ErrWord},
		{"brackets the wrong way round", ")p(", api.ErrWord},
		{"a byte that is no rune", "\xff", api.ErrWord},
		{"that, behind an item", "p\x80", api.ErrWord},
		{"that, behind a number", "2\xc3", api.ErrWord},
		{"that, in a bracket", "(p\xf0)", api.ErrWord},
		{"the rune for what is none", "\ufffd", api.ErrWord},
		{"half of two", "p\xed\xa0\x80", api.ErrWord},
		{"a sign in too many bytes", "\xc1\xb0", api.ErrWord},
		{"a rune whose low byte is a sign's", "\u0170", api.ErrWord},
		{"a rune whose low byte is a bracket's", "\u0128p\u0129", api.ErrWord},
		{"a rune whose low byte is a digit's", "\u0132p", api.ErrWord},
		{"one bracket too deep", nested(api.MaxNest+1, "p"), api.ErrDeep},
		{"that, with numbers", strings.Repeat("1(", api.MaxNest+1) + "p" + strings.Repeat(")", api.MaxNest+1), api.ErrDeep},
		{"that, alone", strings.Repeat("(", api.MaxNest+1), api.ErrDeep},
		{"that, behind others that were closed", nested(api.MaxNest, "p") + nested(api.MaxNest+1, "p"), api.ErrDeep},
		{"that, within a bracket, behind others", "(" + nested(api.MaxNest-1, "p") + strings.Repeat("(", api.MaxNest), api.ErrDeep},
		{"far too deep", strings.Repeat("(", api.MaxText), api.ErrDeep},
	})
}

func TestParseTellsTheFirstFault(t *testing.T) {
	deep := strings.Repeat("(", api.MaxNest)
	tryWrong(t, usual(), []wrongText{
		{"a wrong sign, then a nought", "x0", api.ErrWord},
		{"a nought, then a wrong sign", "0x", api.ErrValue},
		{"a nought, then a bracket that closes none", "0)", api.ErrValue},
		{"too great a number, then a wrong sign", "100x", api.ErrValue},
		{"a wrong sign behind two digits, then one too great", "10x100", api.ErrWord},
		{"a wrong sign where brackets are open", "((x", api.ErrWord},
		{"a nought where brackets are open", "((0", api.ErrValue},
		{"too deep, then a wrong sign", deep + "(x", api.ErrDeep},
		{"too deep, behind a number", deep + "2(", api.ErrDeep},
		{"a wrong sign ahead of one too deep", deep + "x(", api.ErrWord},
		{"too great a number ahead of one too deep", deep + "100(", api.ErrValue},
		{"no items where MaxNest are open", deep + ")", api.ErrWord},
		{"a byte that is no rune, then too deep", "\xff" + deep + "(", api.ErrWord},
		{"too deep, then a byte that is no rune", deep + "(\xff", api.ErrDeep},
		{"too many leads, then a wrong sign", most + "px", api.ErrLimit},
		{"a wrong sign, then too many leads", most + "xp", api.ErrWord},
		{"as many leads as may be, then a wrong sign", most + "x", api.ErrWord},
		{"as many leads as may be, then a number that ends", most + "2", api.ErrShort},
		{"as many leads as may be, then a nought", most + "0p", api.ErrValue},
		{"as many leads as may be, then too great a number", most + "100p", api.ErrValue},
		{"too many leads by a number", most[:12] + "5px", api.ErrLimit},
		{"too many leads, where a bracket is open", "(" + most + "p", api.ErrLimit},
		{"too many leads, where a number ahead makes more", "2(" + most + "p", api.ErrLimit},
		{"a bracket's leads are too many, with its number, only when it is closed", "2(" + most + "x)", api.ErrWord},
		{"that, where the text ends", "2(" + most, api.ErrShort},
		{"that, where it is closed", "2(" + most + ")x", api.ErrLimit},
		{"a bracket is no item till it is closed", most + "(px", api.ErrWord},
		{"that, where the text ends", most + "(p", api.ErrShort},
		{"that, where it is closed", most + "(p)x", api.ErrLimit},
		{"no items in a bracket behind as many leads as may be", most + "()", api.ErrWord},
		{"too deep behind as many leads as may be", most + deep + "(", api.ErrDeep},
	})
}

// As many leads as may be, and one more: of an item, of a bracket, of all.
func TestParseOfManyLeads(t *testing.T) {
	for _, text := range []string{
		most, "(" + most + ")", "1(" + most + ")", nested(api.MaxNest, most), strings.Repeat("p", 400),
		"80(5p)", "80(ppppp)", "5(80p)", "4(99pp)", "50(8p)", "2(2(99pp))", "2(2(2(2(25p))))", "99(4p)4p", "4p99(4p)", "(99(4p)4p)",
		"2(99pp)" + strings.Repeat("p", 200), "(99p99p)(99p99p)4p",
	} {
		if l, e := call.Parse(usual(), text); e != api.OK || !slices.Equal(l, of(400, 0)) {
			t.Errorf("Parse(%q): %d leads, %d, want 400", text, len(l), e)
		}
	}
	tryWrong(t, usual(), []wrongText{
		{"of all", most + "p", api.ErrLimit},
		{"of all, by its last number", most[:12] + "5p", api.ErrLimit},
		{"of all, one by one", strings.Repeat("p", 401), api.ErrLimit},
		{"of all, two brackets", "2(99pp)2(99pp)p", api.ErrLimit},
		{"of all, the last a bracket", "p" + nested(1, most), api.ErrLimit},
		{"of a bracket", "(" + most + "p)", api.ErrLimit},
		{"of a bracket of a bracket", "(p2(2(99pp)))", api.ErrLimit},
		{"of the innermost bracket", nested(api.MaxNest, most+"p"), api.ErrLimit},
		{"of an item", "2(99p99p2pp)", api.ErrLimit},
		{"of another item", "81(5p)", api.ErrLimit},
		{"of an item in a bracket", "(3(99p35p))", api.ErrLimit},
		{"far more", "99(99p)", api.ErrLimit},
		{"far more, in all brackets", strings.Repeat("99(", api.MaxNest) + "99p" + strings.Repeat(")", api.MaxNest), api.ErrLimit},
	})
}

// It is bytes that are counted, not runes, and ahead of all faults.
func TestParseOfLongTexts(t *testing.T) {
	full := strings.Repeat("(1(1(1p)))", api.MaxLeads)
	if l, e := call.Parse(usual(), full); len(full) != api.MaxText || e != api.OK || !slices.Equal(l, of(api.MaxLeads, 0)) {
		t.Errorf("MaxText bytes, MaxLeads leads: Parse: %d leads, %d", len(l), e)
	}
	wide := strings.Repeat("(1(1(é)))", api.MaxLeads)
	if l, e := call.Parse(signed('é'), wide); len(wide) != api.MaxText || e != api.OK || len(l) != api.MaxLeads {
		t.Errorf("MaxText bytes, fewer runes: Parse: %d leads, %d", len(l), e)
	}
	tryWrong(t, signed('é', 'p'), []wrongText{
		{"one byte more", wide + "p", api.ErrLimit},
		{"one byte more, a nought", full + "0", api.ErrLimit},
		{"MaxText bytes, wrong at once", strings.Repeat("x", api.MaxText), api.ErrWord},
		{"one more, wrong at once", strings.Repeat("x", api.MaxText+1), api.ErrLimit},
		{"MaxText bytes, two a rune", strings.Repeat("ü", api.MaxText/2), api.ErrWord},
		{"one more, two a rune", strings.Repeat("ü", api.MaxText/2) + "p", api.ErrLimit},
		{"MaxText bytes that are no rune", strings.Repeat("\xff", api.MaxText), api.ErrWord},
		{"one more that is no rune", strings.Repeat("\xff", api.MaxText+1), api.ErrLimit},
		{"one more, too deep", strings.Repeat("(", api.MaxText+1), api.ErrLimit},
		{"one more, a nought at once", strings.Repeat("0", api.MaxText+1), api.ErrLimit},
		{"far too long", strings.Repeat("p", 1<<20), api.ErrLimit},
	})
}

func TestParseTakesTheFirstOfOneSign(t *testing.T) {
	calls := signed('a', 'b', 'a', 'c', 'b')
	if l, e := call.Parse(calls, "2(abc)"); e != api.OK || !slices.Equal(l, []int{0, 1, 3, 0, 1, 3}) {
		t.Errorf("Parse = %v, %d", l, e)
	}
}

// Neither the calls' number nor their changes are asked for.
func TestParseOfOtherCalls(t *testing.T) {
	for _, calls := range [][]api.Call{nil, {}} {
		tryWrong(t, calls, []wrongText{
			{"a sign", "p", api.ErrWord}, {"nothing", "", api.ErrShort}, {"a bracket", "(", api.ErrShort},
			{"no sign", "\x00", api.ErrWord}, {"a nought", "0", api.ErrValue},
		})
	}
	many := signed('a', 'b', 'c', 'd', 'e', 'f', 'g', 'h', 'i', 'j')
	if l, e := call.Parse(many, "j2i"); e != api.OK || !slices.Equal(l, []int{9, 8, 8}) {
		t.Errorf("more than MaxCalls: Parse = %v, %d", l, e)
	}
	if l, e := call.Parse([]api.Call{{Sign: 'b', Changes: [][]int{{2}, {-1}}}}, "2b"); e != api.OK || !slices.Equal(l, []int{0, 0}) {
		t.Errorf("wrong changes: Parse = %v, %d", l, e)
	}
}

// Signs that may not be: a digit is a digit and a bracket is a bracket; others are signs as they stand.
func TestParseOfSignsThatMayNotBe(t *testing.T) {
	calls := signed('2', '(', ')', 'p', ' ', '　', -1, 0, 0xd800, '\ufffd')
	for text, leads := range map[string][]int{
		"2p": {3, 3}, "(p)": {3}, "2(p)": {3, 3}, "p ": {3, 4}, "2　": {5, 5}, "\x00p": {7, 3}, "\ufffd": {9}, "2(p\ufffd)": {3, 9, 3, 9},
	} {
		if l, e := call.Parse(calls, text); e != api.OK || !slices.Equal(l, leads) {
			t.Errorf("Parse(%q) = %v, %d, want %v", text, l, e, leads)
		}
	}
	tryWrong(t, calls, []wrongText{
		{"a digit alone", "2", api.ErrShort}, {"a bracket alone", "(", api.ErrShort}, {"the other bracket alone", ")", api.ErrWord},
		{"a byte that is no rune is not the rune for it", "\xff", api.ErrWord},
		{"nor behind it", "\ufffd\xff", api.ErrWord},
		{"nor ahead of it", "\xff\ufffd", api.ErrWord},
		{"nor is a part of it", "\xef\xbf", api.ErrWord},
		{"nor half of two", "\xed\xa0\x80", api.ErrWord},
	})
}

func TestParseOfEachRuneAlone(t *testing.T) {
	calls := signed('p', 'é', 0x2fff, '!')
	want := func(r rune) api.Errno {
		switch {
		case strings.ContainsRune("pé\u2fff!", r):
			return api.OK
		case r == '0':
			return api.ErrValue
		case strings.ContainsRune("123456789(", r):
			return api.ErrShort
		}
		return api.ErrWord
	}
	for r := rune(0); r <= 0x3100; r++ {
		if _, e := call.Parse(calls, string(r)); e != want(r) {
			t.Errorf("Parse of the rune %#x: %d, want %d", r, e, want(r))
		}
		if l, e := call.Parse(signed(r), "2"+string(r)); call.Sign(r) && (e != api.OK || !slices.Equal(l, []int{0, 0})) {
			t.Errorf("Parse of two leads of the sign %#x: %v, %d", r, l, e)
		}
	}
	for b := utf8.RuneSelf; b <= 0xff; b++ {
		if l, e := call.Parse(calls, "p"+string([]byte{byte(b)})+"p"); e != api.ErrWord || len(l) != 0 {
			t.Errorf("Parse with the byte %#x: %v, %d", b, l, e)
		}
	}
}

// The model: a beginning of a text is made plain, what is closed written out sign by sign; then it is of a simple form, or its last rune is at fault.
var (
	timesForm   = regexp.MustCompile(`([1-9][0-9]?)([pbé])`)
	closedForm  = regexp.MustCompile(`([1-9][0-9]?)?\(([pbé]+)\)`)
	openForm    = regexp.MustCompile(`([1-9][0-9]?)?\(`)
	plainForm   = regexp.MustCompile(`^(?:[pbé]*(?:[1-9][0-9]?)?\(){0,6}[pbé]*(?:[1-9][0-9]?)?$`)
	writtenForm = regexp.MustCompile(`^[pbé]+$`)
)

func modelCalls() []api.Call { return signed('p', 'b', 'é') }

// written out: each number with what stands behind it, the innermost first.
func written(form *regexp.Regexp, text string) string {
	return form.ReplaceAllStringFunc(text, func(item string) string {
		parts := form.FindStringSubmatch(item)
		times, _ := strconv.Atoi(parts[1])
		return strings.Repeat(parts[2], max(times, 1))
	})
}

// model goes from beginning to beginning, each one rune longer.
func model(text string) ([]int, api.Errno) {
	plain := ""
	for len(text) > 0 {
		_, size := utf8.DecodeRuneInString(text)
		plain = written(closedForm, written(timesForm, plain+text[:size]))
		if !plainForm.MatchString(plain) {
			return nil, modelFault(text[0])
		}
		for _, items := range openForm.Split(plain, -1) {
			if utf8.RuneCountInString(strings.TrimRight(items, "0123456789")) > api.MaxLeads {
				return nil, api.ErrLimit
			}
		}
		text = text[size:]
	}
	if !writtenForm.MatchString(plain) {
		return nil, api.ErrShort
	}
	var leads []int
	for _, sign := range plain {
		leads = append(leads, strings.Index("p b é", string(sign))/2)
	}
	return leads, api.OK
}

func modelFault(first byte) api.Errno {
	switch {
	case first == '(':
		return api.ErrDeep
	case first >= '0' && first <= '9':
		return api.ErrValue
	}
	return api.ErrWord
}

func tryModel(t *testing.T, text string) api.Errno {
	t.Helper()
	want, e := model(text)
	if l, f := call.Parse(modelCalls(), text); f != e || !slices.Equal(l, want) {
		t.Errorf("Parse(%q) = %v, %d, want %v, %d", text, l, f, want, e)
	}
	return e
}

// Every text of up to six of these runes.
func TestParseOfAllShortTexts(t *testing.T) {
	met := map[api.Errno]int{}
	var grow func(text string, more int)
	grow = func(text string, more int) {
		met[tryModel(t, text)]++
		if more > 0 {
			for _, r := range []string{"p", "0", "1", "9", "(", ")", "\xff"} {
				grow(text+r, more-1)
			}
		}
	}
	grow("", 6)
	for _, e := range []api.Errno{api.OK, api.ErrWord, api.ErrShort, api.ErrValue, api.ErrLimit} {
		if met[e] == 0 {
			t.Errorf("no text was answered by %d: %v", e, met)
		}
	}
}

// Longer texts, most of them right up to some place.
func TestParseOfLongerTexts(t *testing.T) {
	pieces := []string{"p", "b", "é", "2p", "3b", "p", "pé", "(", "2(", "3(", "(p", "(b", "(p", ")", ")", ")", ")", ")", ")", "9é", "99p", "80(", "x", "0", "\xc3"}
	next := drawn(5)
	met := map[api.Errno]int{}
	for range 10000 {
		wrong := next(8) / 7 * 3
		text := ""
		for range next(40) {
			text += pieces[next(len(pieces)-3+wrong)]
		}
		met[tryModel(t, text)]++
	}
	if len(met) != 6 {
		t.Errorf("not all was met: %v", met)
	}
}
