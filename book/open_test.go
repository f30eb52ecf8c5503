package book_test

import (
	"strconv"
	"strings"
	"testing"

	"campanile/api"
	"campanile/book"
)

// O2.

func TestBytes(t *testing.T) {
	for _, c := range []struct {
		want string
		l    []api.Record
	}{
		{"", nil},
		{"0|1|a|b#1634950235\n", []api.Record{peal(0, 1, "a", "b")}},
		{"7|1|A|A#4163320415\n", []api.Record{peal(7, 1, "A", "A")}},
		{"1000000|1000000|Plain Bob Minor|Ada,Bo#520649214\n", []api.Record{peal(1000000, 1000000, "Plain Bob Minor", "Ada", "Bo")}},
		{"738000|5040|Étoile 8|Cy Öz,Łódź,Ada#2710178819\n", []api.Record{peal(738000, 5040, "Étoile 8", "Cy Öz", "Łódź", "Ada")}},
		{"12|720|xxxxxxxxxxxxxxxxxxxx|žžžžžžžžžžžžžžžžžžžž#1437703983\n", []api.Record{peal(12, 720, strings.Repeat("x", 20), strings.Repeat("ž", 20))}},
		// As they were added, not by days.
		{"7|1|A|A#4163320415\n0|1|a|b#1634950235\n7|1|A|A#4163320415\n", []api.Record{peal(7, 1, "A", "A"), peal(0, 1, "a", "b"), peal(7, 1, "A", "A")}},
	} {
		if got := string(filled(t, c.l...).Bytes()); got != c.want || linesOf(c.l...) != c.want {
			t.Errorf("Bytes = %q, want %q (and %q)", got, c.want, linesOf(c.l...))
		}
		opens(t, "there and back", c.want, c.l)
	}
}

// opens: is the book of a text just that of these records, which are the first of its lines?
func opens(t *testing.T, why, text string, l []api.Record) {
	t.Helper()
	b, size := book.Open([]byte(text))
	if b == nil {
		t.Fatalf("%s: Open(%.200q) is no book", why, text)
	}
	if want := linesOf(l...); size != len(want) || string(b.Bytes()) != want {
		t.Errorf("%s: Open(%.200q) = %.200q, %d, want %.200q, %d", why, text, b.Bytes(), size, want, len(want))
	}
	if !same(b.All(), byDay(l)) {
		t.Errorf("%s: Open(%.200q): All = %v, want %v", why, text, b.All(), byDay(l))
	}
}

func TestThereAndBack(t *testing.T) {
	next := drawn(233)
	for range 60 {
		l := drawnRecords(next, next(12))
		text := filled(t, l...).Bytes()
		b, size := book.Open(text)
		if size != len(text) {
			t.Errorf("Open(%q) has %d bytes", text, size)
		}
		holds(t, "opened", b, l)
		// It goes on as any other does.
		more := drawnRecord(next)
		if e := b.Add(more); e != api.OK {
			t.Errorf("Add = %d", e)
		}
		holds(t, "opened, and one more", b, append(l, more))
	}
}

// Whatever is cut off, each whole line is there.
func TestBytesThatAreCutOff(t *testing.T) {
	l := some()
	text := linesOf(l...)
	for end := range len(text) + 1 {
		opens(t, "cut off", text[:end], l[:strings.Count(text[:end], "\n")])
	}
	// What is cut off ahead leaves no line, but where one begins.
	first := len(lineOf(l[0]))
	for from := 1; from < first; from++ {
		opens(t, "cut off ahead", text[from:], nil)
	}
	opens(t, "without the first line", text[first:], l[1:])
}

// A byte that is turned, into whichever, takes its line away and all behind it.
func TestBytesThatAreTurned(t *testing.T) {
	l := some()
	text := linesOf(l...)
	for at := range len(text) {
		ahead := l[:strings.Count(text[:at], "\n")]
		want := linesOf(ahead...)
		turned := []byte(text)
		for c := range 256 {
			if byte(c) == text[at] {
				continue
			}
			turned[at] = byte(c)
			b, size := book.Open(turned)
			if size != len(want) || string(b.Bytes()) != want {
				t.Fatalf("byte %d of %q turned into %d: Open = %q, %d", at, text, c, b.Bytes(), size)
			}
		}
	}
}

func TestBytesThatAreLostOrDoubled(t *testing.T) {
	l := some()
	text := linesOf(l...)
	for at := range len(text) {
		ahead := l[:strings.Count(text[:at], "\n")]
		opens(t, "a byte fewer", text[:at]+text[at+1:], ahead)
		// A second newline is a line behind the first one, and no right one.
		whole := ahead
		if text[at] == '\n' {
			whole = l[:len(ahead)+1]
		}
		opens(t, "a byte twice", text[:at+1]+text[at:], whole)
	}
}

// Lines with a check that fits, but which Bytes would not say.
func TestLinesThatAreNotRight(t *testing.T) {
	good := lineOf(some()[0])
	body, check, _ := strings.Cut(strings.TrimSuffix(good, "\n"), "#")
	for why, line := range map[string]string{
		"noughts ahead of the day":          checked("07|5040|a|b"),
		"two noughts as the day":            checked("00|5040|a|b"),
		"noughts ahead of the changes":      checked("7|05040|a|b"),
		"a plus ahead of the day":           checked("+7|5040|a|b"),
		"a plus ahead of the changes":       checked("7|+5040|a|b"),
		"a nought below":                    checked("-0|5040|a|b"),
		"a blank ahead of the day":          checked(" 7|5040|a|b"),
		"a blank behind the day":            checked("7 |5040|a|b"),
		"no day":                            checked("|5040|a|b"),
		"no changes told":                   checked("7||a|b"),
		"a day with a point":                checked("7.0|5040|a|b"),
		"a day of other digits":             checked("７|5040|a|b"),
		"a day with a base":                 checked("0x7|5040|a|b"),
		"a day with a line in it":           checked("1_0|5040|a|b"),
		"changes as a power":                checked("7|5e3|a|b"),
		"letters as a day":                  checked("x|5040|a|b"),
		"letters as changes":                checked("7|x|a|b"),
		"a day too great":                   checked("1000001|5040|a|b"),
		"a day far too great":               checked("18446744073709551623|5040|a|b"),
		"a day below 0":                     checked("-1|5040|a|b"),
		"no changes":                        checked("7|0|a|b"),
		"changes too great":                 checked("7|1000001|a|b"),
		"changes far too great":             checked("7|4294967297|a|b"),
		"changes below 0":                   checked("7|-1|a|b"),
		"no method":                         checked("7|5040||b"),
		"a method that is no name":          checked("7|5040|a-b|b"),
		"a method with a blank behind":      checked("7|5040|a |b"),
		"a method too long":                 checked("7|5040|" + strings.Repeat("a", 21) + "|b"),
		"a method that is no runes":         checked("7|5040|a\xff|b"),
		"a method in too many bytes":        checked("7|5040|\xc1\x81|b"),
		"the rune for what is none":         checked("7|5040|\ufffd|b"),
		"no ringer":                         checked("7|5040|a|"),
		"a comma alone":                     checked("7|5040|a|,"),
		"a comma ahead":                     checked("7|5040|a|,b"),
		"a comma behind":                    checked("7|5040|a|b,"),
		"two commas":                        checked("7|5040|a|b,,c"),
		"a blank behind a comma":            checked("7|5040|a|b, c"),
		"a ringer that is no name":          checked("7|5040|a|b,c!"),
		"a ringer that is no runes":         checked("7|5040|a|b,\xe2\x82"),
		"a ringer too long":                 checked("7|5040|a|" + strings.Repeat("ž", 21)),
		"a ringer twice":                    checked("7|5040|a|b,c,b"),
		"one ringer too many":               checked("7|5040|a|" + strings.Join(numbered(13), ",")),
		"far too many ringers":              checked("7|5040|a|" + strings.Join(numbered(1000), ",")),
		"a part fewer":                      checked("7|5040|a"),
		"two parts":                         checked("7|5040"),
		"one part":                          checked("7"),
		"nothing but its check":             checked(""),
		"a part more":                       checked("7|5040|a|b|c"),
		"a bar behind":                      checked("7|5040|a|b|"),
		"a bar ahead":                       checked("|7|5040|a|b"),
		"a line within a line":              checked("7|5040|a|b#c"),
		"a check of a check":                checked(strings.TrimSuffix(good, "\n")),
		"a return ahead of the newline":     strings.TrimSuffix(good, "\n") + "\r\n",
		"a return that is checked":          checked(body + "\r"),
		"a blank ahead of the newline":      strings.TrimSuffix(good, "\n") + " \n",
		"a nought byte ahead":               "\x00" + good,
		"a mark of bytes' order":            "\ufeff" + good,
		"noughts ahead of the check":        body + "#0" + check + "\n",
		"a plus ahead of the check":         body + "#+" + check + "\n",
		"the check and so many beyond":      body + "#" + checkBeyond(check) + "\n",
		"no check":                          body + "#\n",
		"no sign of a check":                body + "\n",
		"the check without its sign":        body + check + "\n",
		"two signs of a check":              body + "##" + check + "\n",
		"the check of the sign, too":        body + "#" + checkIn(body+"#") + "\n",
		"the check of nothing":              body + "#5381\n",
		"another line's check":              body + "#" + checkIn(body+"x") + "\n",
		"a check in another base":           body + "#0x1\n",
		"the check first":                   check + "#" + body + "\n",
		"an empty line":                     "\n",
		"a blank line":                      " \n",
		"bars and commas":                   "|||,,,#\n",
		"bytes that are no runes":           "\xff\xfe\x80\n",
		"a check below 0":                   body + "#-" + check + "\n",
		"a check with a blank":              body + "# " + check + "\n",
		"small letters for great ones":      strings.ToLower(good),
		"a line of another kind":            "Plain Bob Minor|6|x16\n",
		"a very long day":                   checked(strings.Repeat("7", 100000) + "|5040|a|b"),
		"very many bars":                    checked(strings.Repeat("|", 100000)),
		"very many commas":                  checked("7|5040|a|" + strings.Repeat(",", 100000)),
		"very many signs of a check":        strings.Repeat("#", 100000) + "\n",
		"a very long line without an end":   strings.Repeat("7|5040|a|b", 100000),
		"many newlines":                     strings.Repeat("\n", 100000),
		"a right line, but for its newline": strings.TrimSuffix(good, "\n"),
	} {
		opens(t, why, line, nil)
		// What stands behind a wrong line isn't there, what stands ahead of it is.
		opens(t, why+", a right line behind", line+good, nil)
		opens(t, why+", right lines ahead", linesOf(some()...)+line, some())
		opens(t, why+", between right lines", good+line+good, some()[:1])
	}
}

// checkIn is the check of a text alone.
func checkIn(text string) string { return strings.Trim(checked(text)[len(text):], "#\n") }

// checkBeyond is the same modulo 2 to the 32, but a greater number.
func checkBeyond(check string) string {
	n, _ := strconv.ParseUint(check, 10, 64)
	return strconv.FormatUint(n+1<<32, 10)
}

func TestMoreLinesThanMayBe(t *testing.T) {
	b, l := full(t)
	text := string(b.Bytes())
	opens(t, "as many as may be", text, l)
	for _, behind := range []string{lineOf(some()[0]), linesOf(some()...), text, "x", "\n", "\xff"} {
		opens(t, "and more behind", text+behind, l)
	}
	opened, _ := book.Open([]byte(text + text))
	if e := opened.Add(some()[0]); e != api.ErrLimit {
		t.Errorf("Add to a full book that was opened = %d, want ErrLimit", e)
	}
	if e := opened.Add(api.Record{}); e != api.ErrValue {
		t.Errorf("Add of nothing = %d, want ErrValue", e)
	}
	holds(t, "opened", opened, l)
	// One line fewer: one record more goes in.
	last := len(text) - len(lineOf(l[len(l)-1]))
	opened, _ = book.Open([]byte(text[:last]))
	if e := opened.Add(some()[0]); e != api.OK {
		t.Errorf("Add = %d", e)
	}
	if e := opened.Add(some()[0]); e != api.ErrLimit {
		t.Errorf("Add to a book that is full now = %d, want ErrLimit", e)
	}
}

func TestNoBytesAtAll(t *testing.T) {
	for _, text := range [][]byte{nil, {}, {0}, {'\n'}, {0xff}} {
		b, size := book.Open(text)
		if b == nil || size != 0 {
			t.Fatalf("Open(%q) = %v, %d", text, b, size)
		}
		holds(t, "empty", b, nil)
		if e := b.Add(some()[0]); e != api.OK {
			t.Errorf("Add = %d", e)
		}
		holds(t, "not empty any more", b, some()[:1])
	}
}
