package campanile_test

import (
	"strconv"
	"strings"
	"testing"
)

// Q1: the table, row by row.

func TestMethodLines(t *testing.T) {
	name := strings.Repeat("é", 20)
	each(t, "method", nil, []said{
		{"method", "error 5"},
		{"method ", "error 5"},
		{"method  ", "error 5"},
		{"method a|6", "error 5"},
		{"method a|6|x|", "error 4"},
		{"method a|6|x", "ok"},
		{"method Plain Bob Minor|6|x", "ok"},
		{"method Plain  Bob   Minor|6|x", "ok"},
		{"method  a|6|x", "error 7"},
		{"method a |6|x", "error 7"},
		{"method |6|x", "error 7"},
		{"method " + name + "|6|x", "ok"},
		{"method " + name + "e|6|x", "error 7"},
		{"method \xff|6|x", "error 7"},
		{"method a|06|x", "error 4"},
		{"method a| 6|x", "error 4"},
		{"method a|6 |x", "error 4"},
		{"method a||x", "error 4"},
		{"method a|1|1", "error 1"},
		{"method a|2|x", "ok"},
		{"method a|12|x", "ok"},
		{"method a|13|x", "error 1"},
		{"method a|6|", "error 5"},
		{"method a|6|x ", "error 4"},
		{"method a|6|x 16", "error 4"},
		{"method a|6|x\xff", "error 4"},
		{"method a|6|×16", "ok"},
		{"method a|5|x", "error 6"},
		{"method a|6|" + strings.Repeat("x", 200), "ok"},
		{"method a|6|" + strings.Repeat("x", 201), "error 3"},
		// The first of several errors.
		{"method |6", "error 5"},
		{"method |x|x", "error 7"},
		{"method a|13|y", "error 1"},
	})
	answered(t, "methods, one behind the other", []said{
		{"method a|3|3.1", "ok"}, {"lead", "123 213 231"}, {"method b|2|x", "ok"}, {"lead", "12 21"}, {"method c|5|3.1.5.1.5.1.5.1.5.1", "ok"}, {"head", "12534 3 no"},
	})
}

func TestCallLines(t *testing.T) {
	each(t, "call", opened(), []said{
		{"call c 14", "ok"},
		{"call c 4", "ok"},
		{"call c x", "ok"},
		{"call c 14.16", "ok"},
		{"call c &x16x16x16,12", "ok"},
		{"call c +" + strings.Repeat("x", 12), "ok"},
		{"call c " + strings.Repeat("x", 13), "error 1"},
		{"call c " + strings.Repeat("x", 201), "error 3"},
		{"call c 13", "error 6"},
		{"call c 7", "error 6"},
		{"call c y", "error 4"},
		{"call c 14\xff", "error 4"},
		{"call c ", "error 5"},
		{"call c 14.", "error 5"},
		{"call é 14", "ok"},
		{"call ! 14", "ok"},
		{"call × 14", "ok"},
		{"call \u2fff 14", "ok"},
		{"call \u3000 14", "error 4"},
		{"call \u007f 14", "error 4"},
		{"call \u00a0 14", "error 4"},
		{"call \U0001f514 14", "error 4"},
		{"call 5 14", "error 4"},
		{"call ( 14", "error 4"},
		{"call ) 14", "error 4"},
		{"call bb 14", "error 4"},
		{"call cd 14", "error 4"},
		{"call e\u0301 14", "error 4"},
		{"call  14", "error 4"},
		{"call \t 14", "error 4"},
		{"call \xff 14", "error 4"},
		{"call \xc3 14", "error 4"},
		{"call \xe2\x82 14", "error 4"},
		{"call c\xff 14", "error 4"},
		{"call \xed\xa0\x80 14", "error 4"},
		{"call \ufffd 14", "error 4"},
		{"call p 14", "error 8"},
		{"call b 14", "error 8"},
		{"call s 16", "error 8"},
		{"call P 14", "ok"},
		// The sign ahead of the changes, these ahead of all calls.
		{"call cd 13", "error 4"},
		{"call  13", "error 4"},
		{"call \xff 13", "error 4"},
		{"call 5 13", "error 6"},
		{"call ( ", "error 5"},
		{"call \ufffd 13", "error 6"},
		{"call p 13", "error 6"},
		{"call p ", "error 5"},
		{"call p " + strings.Repeat("x", 13), "error 8"},
		{"call 5 " + strings.Repeat("x", 13), "error 4"},
		{"call 5 " + strings.Repeat("x", 201), "error 3"},
	})
	answered(t, "as many as may be", []said{
		{"method a|4|x14", "ok"}, {"call a 12", "ok"}, {"call b 12", "ok"}, {"call c 12", "ok"}, {"call d 12", "ok"}, {"call e 12", "ok"}, {"call f 12", "ok"}, {"call g 12", "ok"},
		{"call h 12", "error 1"}, {"call p 12", "error 1"}, {"call 5 12", "error 1"}, {"call h 13", "error 6"}, {"call hh 12", "error 4"},
		{"touch abcdefgp", "abcdefgp"}, {"touch h", "error 4"},
	})
	answered(t, "by the method's bells", []said{
		{"method a|5|3.1", "ok"}, {"call b x", "error 6"}, {"call b 5", "ok"}, {"method a|8|x18", "ok"}, {"call b 9", "error 6"}, {"call b 78", "ok"}, {"touch 2b", "2b"},
	})
}

func TestTouchLines(t *testing.T) {
	each(t, "touch", opened(), []said{
		{"touch p", "p"},
		{"touch pp", "2p"},
		{"touch pbs", "pbs"},
		{"touch 2(3(pb)s)", "pbpbpbspbpbpbs"},
		{"touch 99p", "99p"},
		{"touch 99pp", "99pp"},
		{"touch 99p99p99p99p4p", "99p99p99p99p4p"},
		{"touch 99p99p99p99p5p", "error 3"},
		{"touch 5(99p)", "error 3"},
		{"touch ((((((p))))))", "p"},
		{"touch (((((((p)))))))", "error 13"},
		{"touch ", "error 5"},
		{"touch 3", "error 5"},
		{"touch (p", "error 5"},
		{"touch p)", "error 4"},
		{"touch ()", "error 4"},
		{"touch P", "error 4"},
		{"touch x", "error 4"},
		{"touch \xff", "error 4"},
		{"touch p\xc3", "error 4"},
		{"touch 0p", "error 12"},
		{"touch 01p", "error 12"},
		{"touch 100p", "error 12"},
		// The first of several errors.
		{"touch x0", "error 4"},
		{"touch 0x", "error 12"},
		{"touch 5(99px", "error 4"},
	})
	answered(t, "signs of more bytes", opened(), []said{{"call é 16", "ok"}, {"call × 12", "ok"}, {"touch 2(é3×)é", "é3×é3×é"}, {"prove", "108 no no 12 0"}})
	answered(t, "more rows than may be", []said{
		{"method a|6|" + strings.Repeat("x16", 100), "ok"}, {"touch 99p2p", "error 3"}, {"prove", "error 11"}, {"touch 99p1p", "99pp"}, {"prove", "20000 no no 12 0"},
	})
}

func TestLeadAndHeadLines(t *testing.T) {
	for _, c := range []struct{ method, lead, head string }{
		{"a|2|x", "12 21", "21 2 yes"},
		{"a|2|1", "12 12", "12 1 yes"},
		{"a|2|x1", "12 21 21", "21 2 yes"},
		{"a|3|3.1", "123 213 231", "231 3 yes"},
		{"a|4|x14", "1234 2143 2413", "2413 4 yes"},
		{"a|4|x14x14x14x12", "1234 2143 2413 4231 4321 3412 3142 1324 1342", "1342 3 yes"},
		{"a|6|x16x14x12", "123456 214365 241635 426153 462135 641253 642135", "642135 6 no"},
		{"a|12|x", "1234567890ET 2143658709TE", "2143658709TE 2 yes"},
		{"a|12|1T", "1234567890ET 132547698E0T", "132547698E0T 2 yes"},
	} {
		answered(t, c.method, []said{{"method " + c.method, "ok"}, {"lead", c.lead}, {"head", c.head}})
	}
}

func TestLineLines(t *testing.T) {
	answered(t, "all bells", opened(), []said{
		{"line 1", "1 2 3 4 5 6 6 5 4 3 2 1 1"},
		{"line 2", "2 1 1 2 3 4 5 6 6 5 4 3 4"},
		{"line 3", "3 4 5 6 6 5 4 3 2 1 1 2 2"},
		{"line 4", "4 3 2 1 1 2 3 4 5 6 6 5 6"},
		{"line 5", "5 6 6 5 4 3 2 1 1 2 3 4 3"},
		{"line 6", "6 5 4 3 2 1 1 2 3 4 5 6 5"},
		{"line 7", "error 12"},
		{"line 0", "error 12"},
		{"line 12", "error 12"},
		{"line E", "error 4"},
	})
	answered(t, "twelve bells", []said{{"method a|12|x", "ok"}, {"line 12", "12 11"}, {"line 13", "error 12"}, {"line 1", "1 2"}, {"line T", "error 4"}})
	answered(t, "two bells", []said{{"method a|2|x", "ok"}, {"line 2", "2 1"}, {"line 3", "error 12"}})
}

func TestProveAndHeadsLines(t *testing.T) {
	for _, c := range []struct{ touch, prove, heads string }{
		{"p", "12 no yes 0 0", "123456"},
		{"b", "12 no yes 0 0", "123456"},
		{"5p", "60 yes yes 0 0", "123456 135264 156342 164523 142635"},
		{"6p", "72 no no 60 0", "123456 135264 156342 164523 142635 123456"},
		{"10p", "120 yes no 60 0", "123456 135264 156342 164523 142635 123456 135264 156342 164523 142635"},
		{"3b", "36 yes yes 0 0", "123456 123564 123645"},
		{"b2s", "36 yes yes 0 0", "123456 123564 132645"},
	} {
		answered(t, c.touch, opened(), []said{{"touch " + c.touch, c.touch}, {"prove", c.prove}, {"heads", c.heads}})
	}
}

func TestFalseLines(t *testing.T) {
	const twenty = "146352 164253 214365 241356 246315 264351 314256 341265 346251 364215 423165 432615 514263 523614 532164 541362"
	for _, c := range []struct{ method, answer string }{
		{"a|2|1", "no 0"},
		{"a|2|x", "no 0"},
		{"a|6|x", "no 0"},
		{"a|2|1.1", "yes 0"},
		{"a|2|x1", "no 1 21"},
		{"a|2|x1x", "yes 1 21"},
		{"a|4|x14x12x14x12", "no 19 1243 1342 1423 1432 2143 2341 2413 2431 3142 3214 3241 3412 3421 4123 4132 4213 4231 4312 4321"},
		{"a|6|x14x16x14x", "no 20 " + twenty + " 564312 614352 632451 641253"},
		{"a|6|x14x16x14x16", "no 21 " + twenty + " 546213 564312 614352 632451"},
		{"a|4|x14x12x14x12x", "no 22 1243 1324 1342 1423 1432 2143 2314 2341 2413 2431 3124 3142 3214 3241 3412 3421 4123 4132 4213 4231"},
		{"a|11|&1.E.1.E.1.E.1.E.1.E.1,E", "no 21 132547698E0 2143658709E 241638507E9 31527496E80 3517294E608 42618305E79 4628103E597 537192E4068 57391E20486 648201E3957 68402E19375 7593E102846 795E3018264 8604E291735 806E4927153 97E50381624 9E705836142 08E69472513 0E896745231 E9078563412"},
	} {
		answered(t, c.method, []said{{"method " + c.method, "ok"}, {"false", c.answer}})
	}
}

func TestSearchLines(t *testing.T) {
	answered(t, "search", opened(), []said{
		{"search 3 5", "4 3b b2s sbs 2sb"},
		{"search 3 4", "4 3b b2s sbs 2sb"},
		{"search 3 3", "3 3b b2s sbs"},
		{"search 3 1", "1 3b"},
		{"search 1 50", "0"},
		{"search 2 5", "0"},
		{"search 5 1", "1 5p"},
		{"search 0 1", "error 1"},
		{"search 25 1", "error 1"},
		{"search 3 0", "error 1"},
		{"search 3 51", "error 1"},
		{"search 3 50", "4 3b b2s sbs 2sb"},
	})
	answered(t, "by calls as they are", []said{
		{bobMinor, "ok"}, {"search 3 5", "0"}, {"search 5 5", "1 5p"}, {"search 24 50", "0"}, {"call b 14", "ok"}, {"search 3 5", "1 3b"}, {"call s 1234", "ok"}, {"search 3 5", "4 3b b2s sbs 2sb"},
	})
	answered(t, "more beginnings than may be", []said{
		{"method a|12|x1Tx1T", "ok"}, {"call b 12", "ok"}, {"call c 14", "ok"}, {"call d 16", "ok"}, {"search 24 50", "error 3"}, {"search 12 1", "error 3"}, {"search 2 1", "0"},
	})
}

func TestMusicLines(t *testing.T) {
	each(t, "music", touched(), []said{
		{"music", "music"},
		{"music *", "music 109"},
		{"music 1* *6 ??3*", "music 19 18 18"},
		{"music ??3* 1* *6", "music 18 19 18"},
		{"music 1* 1* 1*", "music 19 19 19"},
		{"music 123456", "music 2"},
		{"music 654321", "music 2"},
		{"music ??????", "music 109"},
		{"music", "music"},
		{"music ", "error 1"},
		{"music ?????", "error 1"},
		{"music ???????", "error 1"},
		{"music z", "error 4"},
		{"music 7*", "error 4"},
		{"music **", "error 4"},
		{"music \xff", "error 4"},
		{"music 11*", "error 2"},
		{"music 1*1", "error 2"},
		{"music" + strings.Repeat(" *", 50), "music" + strings.Repeat(" 109", 50)},
		{"music" + strings.Repeat(" *", 51), "error 3"},
		// The first of several errors.
		{"music z ?", "error 4"},
		{"music ? z", "error 1"},
		{"music 1* 11* z", "error 2"},
		{"music" + strings.Repeat(" z", 51), "error 3"},
		{"music 1*  *6", "error 1"},
	})
}

func TestBandLines(t *testing.T) {
	all := "0"
	for k := 1; k <= 108; k++ {
		all += " " + strconv.Itoa(k)
	}
	each(t, "band", touched(), []said{
		{"band 3 2 4", "wrong 3 4 5 6"},
		{"band 0 1 1", "wrong 0"},
		{"band 0 5 1", "wrong 0"},
		{"band 0 6 1", "error 12"},
		{"band 0 0 1", "error 12"},
		{"band 108 1 1", "wrong 108"},
		{"band 109 1 1", "error 12"},
		{"band 105 3 4", "wrong 105 106 107 108"},
		{"band 105 3 9", "wrong 105 106 107 108"},
		{"band 0 3 109", "wrong " + all},
		{"band 0 3 20000", "wrong " + all},
		{"band 0 3 20001", "error 12"},
		{"band 3 2 0", "error 12"},
		{"band 999999 2 4", "error 12"},
		{"band 3 999999 4", "error 12"},
		{"band 3 2 999999", "error 12"},
	})
}

func TestGroupLines(t *testing.T) {
	each(t, "group", nil, []said{
		{"group", "bad"},
		{"group 1", "error 5"},
		{"group 1 1", "1 yes"},
		{"group 123456", "error 5"},
		{"group 12 21", "1 no"},
		{"group 21 12", "2 yes"},
		{"group 2341 4321", "4 no"},
		{"group 2341 3412", "4 yes"},
		{"group 2341 4321 3214", "8 yes"},
		{"group 2341 4321 2134", "8 no"},
		{"group 214365 132546 123456", "12 yes"},
		{"group 2134 1342 4321", "24 yes"},
		{"group 1342 2143 2134", "12 no"},
		{"group 234567890ET1 2134567890ET 1234567890ET", "479001600 yes"},
		{"group 12 12 12 12 12 12 12 21 21", "2 yes"},
		{"group 12 12 12 12 12 12 12 12 21 21", "error 1"},
		{"group 21 123", "error 1"},
		{"group 123 21", "error 1"},
		{"group 21 123 12", "error 1"},
		{"group 21 12 123", "error 1"},
		{"group 1 ", "error 1"},
		{"group  1", "error 1"},
		{"group 21  12", "error 1"},
		{"group 22 12", "error 2"},
		{"group 13 12", "error 2"},
		{"group 12 13", "error 2"},
		{"group 1234567890ETT 1", "error 1"},
		{"group ab 12", "error 4"},
		{"group 12 1\xff", "error 4"},
		{"group ２１ 12", "error 4"},
		// Rows are read first, in order.
		{"group ", "error 1"},
		{"group x", "error 4"},
		{"group 11", "error 2"},
		{"group x 11", "error 4"},
		{"group 11 x", "error 2"},
		{"group 21 123 11", "error 2"},
		{"group 12 12 12 12 12 12 12 12 21 x", "error 4"},
	})
}

func TestColoursLines(t *testing.T) {
	each(t, "colours", nil, []said{
		{"colours", "error 5"},
		{"colours 2", "error 5"},
		{"colours x", "error 5"},
		{"colours 1000000", "error 5"},
		{"colours 234561", "error 5"},
		{"colours ", "error 5"},
		{"colours  ", "error 4"},
		{"colours 2 ", "error 1"},
		{"colours  234561", "error 4"},
		{"colours 2 1", "2"},
		{"colours 0 1", "0"},
		{"colours 1 234561", "1"},
		{"colours 2 234561", "14"},
		{"colours 2 234561 654321", "13"},
		{"colours 2 2341", "6"},
		{"colours 3 4321 2341", "21"},
		{"colours 8 1", "8"},
		{"colours 9 1", "error 12"},
		{"colours 999999 1", "error 12"},
		{"colours 1000000 1", "error 4"},
		{"colours 02 1", "error 4"},
		{"colours -2 1", "error 4"},
		{"colours 2 2345671 2134567", "8"},
		{"colours 2 23456781 21345678", "error 3"},
		{"colours 2 21 123", "error 1"},
		{"colours 2 12 12 12 12 12 12 12 12", "4"},
		{"colours 2 12 12 12 12 12 12 12 12 12", "error 1"},
		{"colours 2 22", "error 2"},
		{"colours 2 x", "error 4"},
		{"colours 2 1\xff", "error 4"},
		{"colours 2 12 ", "error 1"},
		{"colours 8 1234567890ET", "68719476736"},
		// The number is read ahead of the rows, both ahead of all else.
		{"colours x 11", "error 4"},
		{"colours 9 11", "error 2"},
		{"colours 9 11 x", "error 2"},
		{"colours 9 x 11", "error 4"},
		{"colours 9 12 123", "error 12"},
		{"colours 2 12 123 11", "error 2"},
	})
}

func TestCircuitLines(t *testing.T) {
	each(t, "circuit", nil, []said{
		{"circuit", "error 5"},
		{"circuit ", "error 1"},
		{"circuit 1", "yes 0"},
		{"circuit 12", "no"},
		{"circuit 21", "yes 0 0"},
		{"circuit 12 21", "yes 1 1"},
		{"circuit 213 132", "yes 0 1 0 1 0 1"},
		{"circuit 213", "no"},
		{"circuit 123 213 321", "yes 1 2 1 2 1 2"},
		{"circuit 2143 1324", "no"},
		{"circuit 2143 1324 1243", "yes 0 1 0 1 0 1 0 2 0 1 0 1 0 1 0 2 0 1 0 1 0 1 0 2"},
		{"circuit 231", "error 6"},
		{"circuit 213 231", "error 6"},
		{"circuit 12345", "error 1"},
		{"circuit 213 12", "error 1"},
		{"circuit 12 213", "error 1"},
		{"circuit 21 21 21 21 21 21 21 21", "yes 0 0"},
		{"circuit 21 21 21 21 21 21 21 21 21", "error 1"},
		{"circuit 21 ", "error 1"},
		{"circuit  21", "error 1"},
		{"circuit x", "error 4"},
		{"circuit 2\xff1", "error 4"},
		{"circuit 22", "error 2"},
		// Rows are read first, in order.
		{"circuit 231 x", "error 4"},
		{"circuit 12345 22", "error 2"},
		{"circuit 22 x", "error 2"},
		{"circuit x 22", "error 4"},
		{"circuit 12345 23451", "error 1"},
		{"circuit 231 12", "error 1"},
	})
}
