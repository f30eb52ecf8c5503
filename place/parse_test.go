package place_test

import (
	"regexp"
	"slices"
	"strings"
	"testing"

	"campanile/api"
	"campanile/place"
)

// P2.

func TestParse(t *testing.T) {
	cross := []int{}
	for _, c := range []struct {
		n    int
		text string
		want [][]int
	}{
		{1, "1", [][]int{{1}}},
		{1, "1.1,1", [][]int{{1}, {1}, {1}}},
		{2, "x", [][]int{cross}},
		{2, "12", [][]int{{1, 2}}},
		{2, "1", [][]int{{1, 2}}},
		{2, "2", [][]int{{1, 2}}},
		{6, "xX-×", [][]int{cross, cross, cross, cross}},
		{6, "x.X.-.×", [][]int{cross, cross, cross, cross}},
		{6, "x16x.16.x12", [][]int{cross, {1, 6}, cross, {1, 6}, cross, {1, 2}}},
		{6, "16.16", [][]int{{1, 6}, {1, 6}}},
		{6, "+x16,+12,x", [][]int{cross, {1, 6}, {1, 2}, cross}},
		{6, "&x16x16x16,12", [][]int{cross, {1, 6}, cross, {1, 6}, cross, {1, 6}, cross, {1, 6}, cross, {1, 6}, cross, {1, 2}}},
		{5, "&3.1.5.1.5,1", [][]int{{3}, {1}, {5}, {1}, {5}, {1}, {5}, {1}, {3}, {1}}},
		{6, "&x", [][]int{cross}},
		{6, "&16", [][]int{{1, 6}}},
		{6, "&x16", [][]int{cross, {1, 6}, cross}},
		{6, "&12,&x14", [][]int{{1, 2}, cross, {1, 4}, cross}},
		{6, "&12x,34", [][]int{{1, 2}, cross, {1, 2}, {3, 4}}},
		{6, "+12x,&34x", [][]int{{1, 2}, cross, {3, 4}, cross, {3, 4}}},
		{4, "2", [][]int{{1, 2}}},
		{4, "3", [][]int{{3, 4}}},
		{4, "4", [][]int{{1, 4}}},
		{5, "2", [][]int{{1, 2, 5}}},
		{5, "4", [][]int{{1, 4, 5}}},
		{5, "5", [][]int{{5}}},
		{8, "1458", [][]int{{1, 4, 5, 8}}},
		{8, "45", [][]int{{1, 4, 5, 8}}},
		{12, "1234567890ET", [][]int{upTo(12)}},
		{12, "0", [][]int{{1, 10}}},
		{12, "E", [][]int{{11, 12}}},
		{12, "T", [][]int{{1, 12}}},
		{11, "0", [][]int{{1, 10, 11}}},
		{11, "E", [][]int{{11}}},
	} {
		if l, e := place.Parse(c.n, c.text); e != api.OK || !same(l, c.want) {
			t.Errorf("Parse(%d, %q) = %v, %d, want %v", c.n, c.text, l, e, c.want)
		}
	}
}

func TestParseRefuses(t *testing.T) {
	for _, c := range []struct {
		name string
		n    int
		text string
		e    api.Errno
	}{
		{"nothing", 6, "", api.ErrShort},
		{"a mark alone", 6, "&", api.ErrShort},
		{"the other mark alone", 6, "+", api.ErrShort},
		{"nothing behind a comma", 6, "x,", api.ErrShort},
		{"a mark behind a comma", 6, "x,&", api.ErrShort},
		{"nothing behind a dot", 6, "x.", api.ErrShort},
		{"nothing behind a dot behind signs", 6, "16.", api.ErrShort},
		{"nothing behind a dot of a later block", 6, "16,x.", api.ErrShort},
		{"a dot first", 6, ".x", api.ErrWord},
		{"a dot alone", 6, ".", api.ErrWord},
		{"a dot behind a mark", 6, "&.x", api.ErrWord},
		{"a dot behind a comma", 6, "x,.x", api.ErrWord},
		{"two dots", 6, "x..x", api.ErrWord},
		{"two dots last", 6, "x..", api.ErrWord},
		{"a comma first", 6, ",x", api.ErrWord},
		{"a comma alone", 6, ",", api.ErrWord},
		{"a comma behind a mark", 6, "&,x", api.ErrWord},
		{"a comma behind a dot", 6, "x.,x", api.ErrWord},
		{"two commas", 6, "x,,x", api.ErrWord},
		{"two marks", 6, "&&x", api.ErrWord},
		{"both marks", 6, "+&x", api.ErrWord},
		{"a mark behind a change", 6, "x&", api.ErrWord},
		{"a mark behind signs", 6, "16+x", api.ErrWord},
		{"a mark behind a dot", 6, "x.&x", api.ErrWord},
		{"two marks of a later block", 6, "x,++x", api.ErrWord},
		{"a blank", 6, "x 16", api.ErrWord},
		{"a newline", 6, "x\n", api.ErrWord},
		{"a nought byte", 6, "x\x00", api.ErrWord},
		{"small letters", 12, "e", api.ErrWord},
		{"another cross", 6, "✕", api.ErrWord},
		{"another dash", 6, "–", api.ErrWord},
		{"a division", 6, "÷", api.ErrWord},
		{"the first byte of a cross", 6, "\xc3", api.ErrWord},
		{"the last byte of a cross", 6, "\x97", api.ErrWord},
		{"a cross in one byte", 6, "\xd7", api.ErrWord},
		{"a cross in too many bytes", 6, "\xe0\x83\x97", api.ErrWord},
		{"a rune whose low byte is a cross's", 6, "\u0178", api.ErrWord},
		{"a rune whose low byte is a sign's", 6, "\u0131", api.ErrWord},
		{"the rune for what is none", 6, "\ufffd", api.ErrWord},
		{"a byte that is no rune, behind a change", 6, "x\xff", api.ErrWord},
		{"a cross of an odd number", 5, "x", api.ErrPlace},
		{"a cross of one", 1, "x", api.ErrPlace},
		{"a later cross of an odd number", 5, "1.x", api.ErrPlace},
		{"the two-byte cross of an odd number", 5, "×", api.ErrPlace},
		{"a place that isn't there", 4, "5", api.ErrPlace},
		{"the next place that isn't there", 4, "6", api.ErrPlace},
		{"a place that isn't there, behind one", 4, "1T", api.ErrPlace},
		{"the second place of one", 1, "2", api.ErrPlace},
		{"signs that fall", 6, "61", api.ErrPlace},
		{"signs that fall to 1", 4, "21", api.ErrPlace},
		{"a sign twice", 6, "11", api.ErrPlace},
		{"an even sign twice", 4, "22", api.ErrPlace},
		{"one place between", 6, "13", api.ErrPlace},
		{"one place between even ones", 8, "246", api.ErrPlace},
		{"10 in two signs is 1 and 10", 9, "10", api.ErrPlace},
	} {
		if l, e := place.Parse(c.n, c.text); e != c.e || len(l) != 0 {
			t.Errorf("%s: Parse(%d, %q) = %v, %d, want %d", c.name, c.n, c.text, l, e, c.e)
		}
	}
}

func TestParseTellsTheFirstFault(t *testing.T) {
	for _, c := range []struct {
		name string
		n    int
		text string
		e    api.Errno
	}{
		{"wrong signs end at a wrong rune", 6, "61z", api.ErrPlace},
		{"right signs end at a wrong rune", 6, "16z", api.ErrWord},
		{"a wrong rune, then wrong signs", 6, "z61", api.ErrWord},
		{"wrong signs end at a byte that is no rune", 6, "61\xff", api.ErrPlace},
		{"wrong signs end at a mark", 6, "61&", api.ErrPlace},
		{"wrong signs end at a dot, then another", 6, "61..", api.ErrPlace},
		{"wrong signs at the end, behind a dot", 6, "x.61", api.ErrPlace},
		{"a wrong cross, then a wrong rune", 5, "xz", api.ErrPlace},
		{"a wrong rune, then a wrong cross", 5, "1zx", api.ErrWord},
		{"wrong signs end at a wrong cross", 5, "31x", api.ErrPlace},
		{"two dots, then wrong signs", 6, "x..61", api.ErrWord},
		{"a wrong rune, then nothing behind a dot", 6, "xz.", api.ErrWord},
		{"a place that isn't there ends at a wrong rune", 4, "5z", api.ErrPlace},
	} {
		if l, e := place.Parse(c.n, c.text); e != c.e || len(l) != 0 {
			t.Errorf("%s: Parse(%d, %q) = %v, %d, want %d", c.name, c.n, c.text, l, e, c.e)
		}
	}
}

func TestParseOfEachRuneAlone(t *testing.T) {
	want := func(r rune) api.Errno {
		switch {
		case strings.ContainsRune("xX-×12345678", r):
			return api.OK
		case strings.ContainsRune("90ET", r):
			return api.ErrPlace
		case strings.ContainsRune("&+", r):
			return api.ErrShort
		}
		return api.ErrWord
	}
	for r := rune(0); r <= 0x3000; r++ {
		if _, e := place.Parse(8, string(r)); e != want(r) {
			t.Errorf("Parse of the rune %#x: %d, want %d", r, e, want(r))
		}
	}
}

func TestParseRefusesTheCountFirst(t *testing.T) {
	for _, n := range wrongCounts() {
		for _, text := range []string{"", "x", "1", "z", "\xff", "21", strings.Repeat("x", api.MaxText+1)} {
			if l, e := place.Parse(n, text); e != api.ErrCount || len(l) != 0 {
				t.Errorf("Parse(%d, %.9q) = %v, %d, want ErrCount", n, text, l, e)
			}
		}
	}
}

// It is bytes that are counted, not runes, and ahead of all faults.
func TestParseOfLongTexts(t *testing.T) {
	for _, c := range []struct {
		name, text string
		e          api.Errno
	}{
		{"MaxText bytes of nothing", strings.Repeat("z", api.MaxText), api.ErrWord},
		{"one more", strings.Repeat("z", api.MaxText+1), api.ErrLimit},
		{"MaxText bytes of signs", strings.Repeat("1", api.MaxText), api.ErrPlace},
		{"one more sign", strings.Repeat("1", api.MaxText+1), api.ErrLimit},
		{"MaxText bytes, two a rune", strings.Repeat("é", api.MaxText/2), api.ErrWord},
		{"one more, two a rune", "." + strings.Repeat("é", api.MaxText/2), api.ErrLimit},
		{"MaxText bytes that are no rune", strings.Repeat("\xff", api.MaxText), api.ErrWord},
		{"one more that is no rune", strings.Repeat("\xff", api.MaxText+1), api.ErrLimit},
		{"far too long", strings.Repeat(".", 1<<20), api.ErrLimit},
	} {
		if l, e := place.Parse(6, c.text); e != c.e || len(l) != 0 {
			t.Errorf("%s: Parse = %v, %d, want %d", c.name, l, e, c.e)
		}
	}
}

// many is so many crosses and changes of signs, in turn.
func many(n int) string { return strings.Repeat("x16", n/2) + strings.Repeat("x", n%2) }

func TestParseOfManyChanges(t *testing.T) {
	for _, c := range []struct {
		name, text string
		changes    int
	}{
		{"a block of MaxChanges", many(200), 200},
		{"MaxChanges of all places and dots", strings.Repeat("123456.", 199) + "123456", 200},
		{"two blocks", many(199) + "," + many(1), 200},
		{"MaxChanges blocks", strings.Repeat("+x,", 199) + "16", 200},
		{"a block told back again", "&" + many(100), 199},
		{"two, one told back again", "&" + many(100) + ",12", 200},
		{"the last one told back again", "12,&" + many(100), 200},
		{"two that are told back again", "&" + many(50) + ",&" + many(51), 200},
	} {
		if l, e := place.Parse(6, c.text); e != api.OK || len(l) != c.changes {
			t.Errorf("%s: Parse: %d changes, %d, want %d", c.name, len(l), e, c.changes)
		}
	}
}

func TestParseOfTooManyChanges(t *testing.T) {
	for _, c := range []struct {
		name, text string
		e          api.Errno
	}{
		{"one more in a block", many(201), api.ErrLimit},
		{"one more of signs", many(200) + ".16", api.ErrLimit},
		{"one more of signs, ended by a wrong rune", many(200) + ".16z", api.ErrLimit},
		{"one more of wrong signs", many(200) + ".61", api.ErrPlace},
		{"a wrong rune instead of one more", many(200) + "z", api.ErrWord},
		{"a dot behind the last that may be", many(200) + ".", api.ErrShort},
		{"one more cross, then a wrong rune", many(201) + "z", api.ErrLimit},
		{"one more in a later block", "16," + many(201), api.ErrLimit},
		{"one more in a block that is told back again", "&" + many(201), api.ErrLimit},
		{"that, then a wrong rune", "&" + many(201) + "z", api.ErrLimit},
		{"one more in two blocks", many(200) + ",x", api.ErrLimit},
		{"that, ended by a comma", many(200) + ",x,z", api.ErrLimit},
		{"that, but for a wrong rune ahead of the block's end", many(200) + ",xz", api.ErrWord},
		{"that, but for wrong signs at the block's end", many(200) + ",61", api.ErrPlace},
		{"nothing in the second block", many(200) + ",", api.ErrShort},
		{"nothing behind the dot of the second block", many(200) + ",x.", api.ErrShort},
		{"a comma behind the dot of the second block", many(200) + ",x.,", api.ErrWord},
		{"one more block than MaxChanges", strings.Repeat("x,", 200) + "x", api.ErrLimit},
		{"one more when told back again", "&" + many(101), api.ErrLimit},
		{"that, ended by a comma", "&" + many(101) + ",z", api.ErrLimit},
		{"that, but for a wrong rune ahead of the block's end", "&" + many(101) + "z", api.ErrWord},
		{"one more behind one that is told back again", "&" + many(100) + ",xx", api.ErrLimit},
		{"one more of two that are told back again", "&" + many(51) + ",&" + many(51), api.ErrLimit},
	} {
		if l, e := place.Parse(6, c.text); e != c.e || len(l) != 0 {
			t.Errorf("%s: Parse = %d changes, %d, want %d", c.name, len(l), e, c.e)
		}
	}
}

// The model: what may be a beginning of changes, and what changes are, as expressions.
const (
	changeForm = `(?:[xX×-]|[1234567890ET]+)`
	blockForm  = `[&+]?` + changeForm + `(?:\.?` + changeForm + `)*`
)

var (
	wholeForm     = regexp.MustCompile(`^` + blockForm + `(?:,` + blockForm + `)*$`)
	beginningForm = regexp.MustCompile(`^(?:` + blockForm + `,)*(?:[&+]?|` + blockForm + `\.?)$`)
	oneForm       = regexp.MustCompile(changeForm)
)

// modelPlaces of a change, if it may be.
func modelPlaces(n int, text string, may [][]int) ([]int, bool) {
	l := []int{}
	if !strings.Contains("xX-×", text) {
		for _, sign := range text {
			l = append(l, strings.IndexRune("1234567890ET", sign)+1)
		}
		if l[0]%2 == 0 {
			l = append([]int{1}, l...)
		}
		if (12+n-l[len(l)-1])%2 == 1 {
			l = append(l, n)
		}
	}
	return l, contains(may, l)
}

// model finds where each kind of fault is first, and then what is told: at one place the wrong change ahead of the wrong rune. (Of short texts: no limits.)
func model(n int, text string, may [][]int) ([][]int, api.Errno) {
	wrongRune := len(text) + 1
	for i, r := range text {
		if !beginningForm.MatchString(text[:i] + string(r)) {
			wrongRune = i
			break
		}
	}
	for _, at := range oneForm.FindAllStringIndex(text, -1) {
		told := at[1]
		if strings.Contains("xX-×", text[at[0]:at[1]]) {
			told = at[0]
		}
		if _, ok := modelPlaces(n, text[at[0]:at[1]], may); !ok && told <= wrongRune {
			return nil, api.ErrPlace
		}
	}
	if wrongRune < len(text) {
		return nil, api.ErrWord
	}
	if !wholeForm.MatchString(text) {
		return nil, api.ErrShort
	}
	var all [][]int
	for _, block := range strings.Split(text, ",") {
		first := len(all)
		for _, one := range oneForm.FindAllString(block, -1) {
			l, _ := modelPlaces(n, one, may)
			all = append(all, l)
		}
		if block[0] == '&' {
			back := slices.Clone(all[first : len(all)-1])
			slices.Reverse(back)
			all = append(all, back...)
		}
	}
	return all, api.OK
}

func tryModel(t *testing.T, n int, text string, may [][]int) api.Errno {
	t.Helper()
	want, e := model(n, text, may)
	if l, f := place.Parse(n, text); f != e || !same(l, want) {
		t.Errorf("Parse(%d, %q) = %v, %d, want %v, %d", n, text, l, f, want, e)
	}
	return e
}

// Every text of up to five of these runes.
func TestParseOfAllShortTexts(t *testing.T) {
	runes := []string{"x", "1", "2", "4", ".", ",", "&", "+", "\xff"}
	for _, n := range []int{1, 3, 4, 5} {
		may := placesOf(allChanges(n))
		met := map[api.Errno]int{}
		var grow func(text string, more int)
		grow = func(text string, more int) {
			met[tryModel(t, n, text, may)]++
			if more > 0 {
				for _, r := range runes {
					grow(text+r, more-1)
				}
			}
		}
		grow("", 5)
		for _, e := range []api.Errno{api.OK, api.ErrWord, api.ErrShort, api.ErrPlace} {
			if met[e] == 0 {
				t.Errorf("%d bells: no text was answered by %d: %v", n, e, met)
			}
		}
	}
}

// Longer texts, most of them right up to some place.
func TestParseOfLongerTexts(t *testing.T) {
	pieces := []string{"x", "×", "-", "X", "1", "2", "3", "4", "12", "14", "34", "16", "1T", "E", "90", ".", ".", ".", ".", ",", ",&", ",+", "x", "z", "&"}
	number := uint64(5)
	next := func(most int) int {
		number = number*6364136223846793005 + 1442695040888963407
		return int(number >> 33 % uint64(most))
	}
	met := map[api.Errno]int{}
	for n := 1; n <= api.MaxBells; n++ {
		may := placesOf(allChanges(n))
		for range 3000 {
			text := []string{"", "&", "+"}[next(3)]
			for range next(14) {
				text += pieces[next(len(pieces))]
			}
			met[tryModel(t, n, text, may)]++
		}
	}
	if len(met) != 4 {
		t.Errorf("not all was met: %v", met)
	}
}
