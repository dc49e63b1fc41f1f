package interp_test

import (
	"bytes"
	"fmt"
	"slices"
	"strings"
	"testing"

	"brickyard/api"
	"brickyard/interp"
)

var one = []string{"t"}

// wantOut: an action that has the target t is done, with this content.
func wantOut(t *testing.T, code string, a answers, used int, output string, needs ...string) {
	t.Helper()
	wantRan(t, read(code), one, a, asking(done(used, output), needs...))
}

func wantFailed(t *testing.T, code string, a answers, used int, why api.Errno, text string, needs ...string) {
	t.Helper()
	wantRan(t, read(code), one, a, asking(failed(used, why, text), needs...))
}

// P14.8: each kind of statement, with what it costs (wantRan asks each with just enough fuel, and with less).
func TestWhatEachCosts(t *testing.T) {
	a := answers{"x": "a\nb\n", "none": ""}
	wantOut(t, "write t", a, 1, "")
	wantOut(t, "need x / write t", a, 2, "", "x")
	wantOut(t, "cat x / write t", a, 6, "a\nb\n", "x")
	wantOut(t, "cat none / write t", a, 2, "", "none")
	wantOut(t, "text / write t", a, 3, "\n")
	wantOut(t, "text ab c / write t", a, 7, "ab c\n")
	wantOut(t, "upper / write t", a, 2, "")
	wantOut(t, "sort / write t", a, 2, "")
	wantOut(t, "uniq / write t", a, 2, "")
	wantOut(t, "count / write t", a, 2, "0\n")
	wantFailed(t, "fail", a, 1, api.ErrFail, "")
	wantFailed(t, "fail a", a, 1, api.ErrFail, "a")
	wantOut(t, "repeat 0 / end / write t", a, 2, "")
	wantOut(t, "repeat 1 / end / write t", a, 3, "")
	wantOut(t, "repeat 5 / end / write t", a, 7, "")
	wantOut(t, "repeat 5 / upper / sort / end / write t", a, 17, "")
	wantOut(t, "each x / end / write t", a, 4, "", "x")
	wantOut(t, "each x / upper / end / write t", a, 6, "", "x")
	wantOut(t, "each none / text @ / end / write t", a, 2, "", "none")
	wantOut(t, "when a a / end / write t", a, 2, "")
	wantOut(t, "when a a / upper / end / write t", a, 3, "")
	wantOut(t, "when a b / upper / end / write t", a, 2, "")
	wantOut(t, "repeat 2 / each x / when @ b / text @ / end / end / end / write t", a, 20, "b\nb\n", "x")
	wantOut(t, "each x / repeat 2 / text @ / end / end / write t", a, 22, "a\na\nb\nb\n", "x")
	wantFailed(t, "", a, 0, api.ErrOutput, "t")
}

// P14.8: an action that goes round for ever, if one let it.
func TestRoundAndRound(t *testing.T) {
	code := list()
	for range 8 {
		code = list(repeat(1000, code...))
	}
	for _, fuel := range []int{0, 1, 2, 100, 9999, api.MaxFuel} {
		wantDo(t, code, one, fuel, nil, failed(fuel, api.ErrFuel, ""))
		wantDo(t, append(slices.Clone(code), stmt(api.OpWrite, "t")), one, fuel, nil, failed(fuel, api.ErrFuel, ""))
	}
	code = list(repeat(250, repeat(256, stmt(api.OpUpper))))
	if ran, e := interp.Do(code, one, api.MaxFuel, nil); e != api.OK || !sameRan(ran, failed(api.MaxFuel, api.ErrFuel, "")) {
		t.Errorf("%v, %v", ran, e)
	}
}

// repeat 0 to MaxRepeat.
func TestRepeats(t *testing.T) {
	for _, n := range []int{0, 1, 2, 9, 10, 127, 128} {
		code := list(repeat(n, text("x")), stmt(api.OpWrite, "t"))
		wantRan(t, code, one, nil, done(4*n+2, times(n, "x\n")))
	}
	wantRan(t, list(repeat(129, text("x"))), one, nil, failed(1+128*4+2, api.ErrSize, ""))
	for _, n := range []int{999, 1000} {
		wantRan(t, list(repeat(n), stmt(api.OpWrite, "t")), one, nil, done(n+2, ""))
		wantRan(t, list(repeat(n, stmt(api.OpCount)), stmt(api.OpWrite, "t")), one, nil, done(2*n+2, "1\n"))
		wantRan(t, list(repeat(n, repeat(2, stmt(api.OpSort)), when("a", "a")), stmt(api.OpWrite, "t")), one, nil, done(7*n+2, ""))
	}
}

// contents of 0 to 257 bytes that are told.
func TestSizesTold(t *testing.T) {
	for _, n := range []int{0, 1, 255, 256} {
		a := answers{"x": times(n, "b")}
		rounds := min(n, 1)
		wantOut(t, "need x / write t", a, 2, "", "x")
		wantOut(t, "cat x / write t", a, 2+n, a["x"], "x")
		wantOut(t, "each x / end / write t", a, 2+rounds, "", "x")
		a["x"] = times(n, "\n")
		wantOut(t, "cat x / write t", a, 2+n, a["x"], "x")
		wantOut(t, "each x / end / write t", a, 2+n, "", "x")
		wantOut(t, "each x / text @ / end / write t", a, 2+3*n, a["x"], "x")
	}
	for _, n := range []int{257, 258, 1 << 20} {
		a := answers{"x": times(n, "b")}
		for _, line := range []string{"need x", "cat x", "each x / end"} {
			wantFailed(t, line+" / write t", a, 1, api.ErrSize, "x", "x")
			wantFailed(t, "text a / "+line, a, 4, api.ErrSize, "x", "x")
			wantFailed(t, "need y/../x / "+line, a, 1, api.ErrSize, "x", "x")
		}
	}
}

// contents of 0 to 257 bytes that are put behind the buffer, by cat and by text.
func TestSizesPut(t *testing.T) {
	for _, had := range []int{0, 1, 100, 255, 256} {
		for _, n := range []int{0, 1, 2, 155, 156, 157, 254, 255, 256} {
			a := answers{"x": times(had, "b"), "y": times(n, "c")}
			if had+n <= 256 {
				wantOut(t, "cat x / cat y / write t", a, 3+had+n, a["x"]+a["y"], "x", "y")
			} else {
				wantFailed(t, "cat x / cat y / write t", a, 2+had, api.ErrSize, "", "x", "y")
			}
			code := list(stmt(api.OpCat, "x"), text(a["y"]), stmt(api.OpWrite, "t"))
			if had+n+1 <= 256 {
				wantRan(t, code, one, a, asking(done(4+had+n, a["x"]+a["y"]+"\n"), "x"))
			} else {
				wantRan(t, code, one, a, asking(failed(2+had, api.ErrSize, ""), "x"))
			}
		}
	}
	wantRan(t, list(text(times(256, "a"))), one, nil, failed(1, api.ErrSize, ""))
	wantRan(t, list(text(times(257, "a"))), one, nil, failed(1, api.ErrSize, ""))
	wantRan(t, list(text(make([]string, 256)...), stmt(api.OpWrite, "t")), one, nil, done(2+256, times(255, " ")+"\n"))
	wantRan(t, list(text(make([]string, 257)...)), one, nil, failed(1, api.ErrSize, ""))
	wantRan(t, list(text(times(1<<20, "@"), times(255, "a")), stmt(api.OpWrite, "t")), one, nil, failed(1, api.ErrSize, ""))
	wantRan(t, list(text(times(1<<20, "@"), times(254, "a")), stmt(api.OpWrite, "t")), one, nil, done(2+256, " "+times(254, "a")+"\n"))
}

// What would be too long is told ahead of what can not be paid for.
func TestTooLongAheadOfTooDear(t *testing.T) {
	a := answers{"x": times(200, "b")}
	for fuel := 202; fuel < 300; fuel++ {
		wantDo(t, read("cat x / cat x"), one, fuel, a, asking(failed(202, api.ErrSize, ""), "x"))
		wantDo(t, list(stmt(api.OpCat, "x"), text(times(56, "a"))), one, fuel, a, asking(failed(202, api.ErrSize, ""), "x"))
	}
	wantDo(t, read("cat x / cat x"), one, 201, a, asking(failed(201, api.ErrFuel, ""), "x"))
	wantDo(t, list(text(times(1<<24, "a"))), one, 1, nil, failed(1, api.ErrSize, ""))
	wantDo(t, list(text(times(1<<24, "a"))), one, 0, nil, failed(0, api.ErrFuel, ""))
}

// A text whose @ come to more than memory has is too long, and that is told at once.
func TestTextsBeyondAllBounds(t *testing.T) {
	a := answers{"x": times(256, "b")}
	code := list(each("x", text(times(1<<25, "@"))))
	if ran, e := interp.Do(code, one, 99, a.ask); e != api.OK || !sameRan(ran, asking(failed(3, api.ErrSize, ""), "x")) {
		t.Errorf("%v, %v", ran, e)
	}
	code = list(each("x", when(times(1<<25, "@"), times(1<<25, "@")+"b", text("no")), when(times(1<<25, "@"), times(1<<25, "@"), text("yes"))), stmt(api.OpWrite, "t"))
	if ran, e := interp.Do(code, one, 99, a.ask); e != api.OK || !sameRan(ran, asking(done(10, "yes\n"), "x")) {
		t.Errorf("%v, %v", ran, e)
	}
}

// changed is what a sort, a uniq or a count makes of a content.
type changed struct{ was, sort, uniq, count string }

func wantChanged(t *testing.T, x changed) {
	t.Helper()
	for word, want := range map[string]string{"sort": x.sort, "uniq": x.uniq, "count": x.count} {
		a := answers{"x": x.was}
		wantOut(t, "cat x / "+word+" / write t", a, 3+len(x.was), want, "x")
	}
}

// Contents with and without a byte 10 at their end, with empty lines, with bytes 0 and 255.
func TestLines(t *testing.T) {
	for _, x := range []changed{
		{"", "", "", "0\n"},
		{"\n", "\n", "\n", "1\n"},
		{"\n\n", "\n\n", "\n", "2\n"},
		{"a", "a\n", "a\n", "1\n"},
		{"a\n", "a\n", "a\n", "1\n"},
		{"a\n\n", "\na\n", "a\n\n", "2\n"},
		{"\na", "\na\n", "\na\n", "2\n"},
		{"b\na", "a\nb\n", "b\na\n", "2\n"},
		{"b\na\nb\nb", "a\nb\nb\nb\n", "b\na\nb\n", "4\n"},
		{"b\nb\na\na\nb\nb\n", "a\na\nb\nb\nb\nb\n", "b\na\nb\n", "6\n"},
		{"\n\na\n\n\nb", "\n\n\n\na\nb\n", "\na\n\nb\n", "6\n"},
		{"ab\na\nabc\n\na", "\na\na\nab\nabc\n", "ab\na\nabc\n\na\n", "5\n"},
		{"\xff\n\x00\n\x80\n\x7f\n\xc3\xa9\nz", "\x00\nz\n\x7f\n\x80\n\xc3\xa9\n\xff\n", "\xff\n\x00\n\x80\n\x7f\n\xc3\xa9\nz\n", "6\n"},
		{"\x00\x00\n\x00\n\x00", "\x00\n\x00\n\x00\x00\n", "\x00\x00\n\x00\n", "3\n"},
		{"a \na\n a\na\r\na", " a\na\na\na\r\na \n", "a \na\n a\na\r\na\n", "5\n"},
		{"B\na\nA\nb", "A\nB\na\nb\n", "B\na\nA\nb\n", "4\n"},
		{"10\n9\n1", "1\n10\n9\n", "10\n9\n1\n", "3\n"},
		{times(256, "\n"), times(256, "\n"), "\n", "256\n"},
		{times(128, "a\n"), times(128, "a\n"), "a\n", "128\n"},
		{times(127, "a\n") + "a", times(128, "a\n"), "a\n", "128\n"},
		{times(255, "a"), times(255, "a") + "\n", times(255, "a") + "\n", "1\n"},
		{times(255, "a") + "\n", times(255, "a") + "\n", times(255, "a") + "\n", "1\n"},
		{times(10, "x\n"), times(10, "x\n"), "x\n", "10\n"},
		{times(9, "\n"), times(9, "\n"), "\n", "9\n"},
	} {
		wantChanged(t, x)
		if n := strings.Count(x.sort, "\n"); n+len(x.was) <= 256 {
			a := answers{"x": x.was}
			back := x.was
			if back != "" && !strings.HasSuffix(back, "\n") {
				back += "\n"
			}
			wantOut(t, "each x / text @ / end / write t", a, 2+2*n+len(back), back, "x")
		}
	}
}

// sort and uniq put a byte 10 behind the last line: of 256 bytes without it that is too long.
func TestLinesThatAreTooLong(t *testing.T) {
	for _, s := range []string{times(256, "a"), times(127, "a\n") + "bb", "\n" + times(255, "a"), "b\n" + times(254, "a"), times(255, "\n") + "a"} {
		a := answers{"x": s}
		wantFailed(t, "cat x / sort / write t", a, 2+256, api.ErrSize, "", "x")
		n := strings.Count(s, "\n") + 1
		wantOut(t, "cat x / count / write t", a, 3+256, fmt.Sprintln(n), "x")
	}
	for _, s := range []string{times(256, "a"), "\n" + times(255, "a"), times(64, "a\nb\n")[1:] + "a"} {
		wantFailed(t, "cat x / uniq / write t", answers{"x": s}, 2+256, api.ErrSize, "", "x")
	}
	wantOut(t, "cat x / uniq / write t", answers{"x": times(127, "a\n") + "bb"}, 3+256, "a\nbb\n", "x")
	wantOut(t, "cat x / uniq / write t", answers{"x": times(253, "b") + "\na\n"}, 3+256, times(253, "b")+"\na\n", "x")
	wantOut(t, "cat x / uniq / write t", answers{"x": "a\na\n" + times(252, "b")}, 3+256, "a\n"+times(252, "b")+"\n", "x")
}

// P14.9
func TestSortedAndUnlike(t *testing.T) {
	words := []string{"b", "", "abc", "a", "ab", "a b", "\x00", "\xff", "b", "B", "", "~", "a", "b"}
	var code []api.Stmt
	sum := 0
	for _, w := range words {
		code = append(code, text(w))
		sum += 2 + len(w)
	}
	unlike := strings.Join(slices.Compact(slices.Sorted(slices.Values(words))), "\n") + "\n"
	n := strings.Count(unlike, "\n")
	wantRan(t, append(slices.Clone(code), read("sort / uniq / write t")...), one, nil, done(sum+3, unlike))
	wantRan(t, append(slices.Clone(code), read("sort / uniq / count / write t")...), one, nil, done(sum+4, fmt.Sprintln(n)))
	wantRan(t, append(slices.Clone(code), read("sort / uniq / uniq / sort / uniq / write t")...), one, nil, done(sum+6, unlike))
	wantRan(t, append(slices.Clone(code), read("count / write t")...), one, nil, done(sum+2, fmt.Sprintln(len(words))))
	wantRan(t, append(slices.Clone(code), read("count / count / write t")...), one, nil, done(sum+3, "1\n"))
}

// upper changes just the bytes a to z.
func TestUpper(t *testing.T) {
	var all []byte
	for i := range 256 {
		all = append(all, byte(i))
	}
	want := slices.Clone(all)
	for c := byte('a'); c <= 'z'; c++ {
		want[c] = c - 32
	}
	wantOut(t, "cat x / upper / write t", answers{"x": string(all)}, 3+256, string(want), "x")
	wantOut(t, "cat x / upper / upper / write t", answers{"x": string(all)}, 4+256, string(want), "x")
	wantOut(t, "cat x / upper / cat x / write t", answers{"x": "aé\n"}, 4+8, "Aé\naé\n", "x")
	if bytes.Equal(all, want) {
		t.Error("nothing is upper")
	}
}

// P14.7: the ninth path asked for, one of the eight asked again, one asked in two spellings.
func TestNeeds(t *testing.T) {
	a := answers{}
	var code []api.Stmt
	var eight []string
	for i := range 8 {
		p := fmt.Sprint("p", i)
		a[p] = p
		eight = append(eight, p)
		code = append(code, stmt(api.OpNeed, p))
	}
	and := func(s string) []api.Stmt { return append(slices.Clone(code), read(s)...) }
	wantRan(t, and("write t"), one, a, asking(done(9, ""), eight...))
	wantRan(t, and("need p0 / need p7 / cat p3 / each p4 / cat x/../@ / end / write t"), one, a, asking(done(19, "p3p4"), eight...))
	for _, line := range []string{"need p8", "cat p8", "each p8 / end", "cat ./p0/../p8//"} {
		wantRan(t, and(line+" / write t"), one, a, asking(failed(9, api.ErrNeeds, "p8"), eight...))
		a["p8"] = "ab"
		wantRan(t, and("cat p0 / "+line), one, a, asking(failed(12, api.ErrNeeds, "p8"), eight...))
		delete(a, "p8")
	}
	wantRan(t, and("need P"), one, a, asking(failed(9, api.ErrPath, "P"), eight...))
	wantRan(t, and("write p8"), one, a, asking(failed(9, api.ErrOutput, "p8"), eight...))
	wantOut(t, "cat x/y / cat x//y / cat ./x/./y/ / cat z/../x/y / each /x/y / end / write t", answers{"x/y": "a"}, 11, "aaaa", "x/y")
	wantOut(t, "need b / need a / cat b / need c / cat a / write t", answers{"a": "1", "b": "2", "c": "3"}, 8, "21", "b", "a", "c")
}

// What a run writes is not what it is told: a target that it asks for is a path as others are.
func TestTargetThatIsAsked(t *testing.T) {
	wantOut(t, "cat t / text x / write t / cat t", answers{"t": "a"}, 8, "ax\n", "t")
	wantOut(t, "write t / cat t / upper", answers{"t": "a"}, 4, "", "t")
}

// A path that has no content ends the run; what was told of others does not matter.
func TestLacks(t *testing.T) {
	for _, line := range []string{"need x", "cat x", "each x / fail / end", "need y/../x"} {
		wantFailed(t, "cat a / "+line+" / fail / write t", answers{"a": "b"}, 3, api.ErrLack, "x", "a", "x")
		wantFailed(t, "repeat 2 / "+line+" / end", nil, 3, api.ErrLack, "x", "x")
	}
}

// Words with @: in an each, in an each in an each, outside of any.
func TestAt(t *testing.T) {
	a := answers{"l": "a\nb\n\nc@", "m": "1\n2", "a": "A", "b": "B"}
	wantOut(t, "each l / text @ / end / write t", a, 18, "a\nb\n\nc@\n", "l")
	wantOut(t, "each l / text <@@> x@ / end / write t", a, 42, "<aa> xa\n<bb> xb\n<> x\n<c@c@> xc@\n", "l")
	wantOut(t, "text @ a@b @@ / write t", a, 7, " ab \n")
	wantOut(t, "repeat 2 / text @ / end / write t", a, 8, "\n\n")
	wantOut(t, "each m / each l / text @ / end / text @ / end / write t", a, 44, "a\nb\n\nc@\n1\na\nb\n\nc@\n2\n", "m", "l")
	wantOut(t, "each m / text @ / each l / end / text @ / end / text @ / write t", a, 28, "1\n1\n2\n2\n\n", "m", "l")
	wantOut(t, "each m / repeat 2 / when @ 2 / repeat 1 / text @ / end / end / end / end / write t", a, 24, "2\n2\n", "m")
	wantOut(t, "each m / each l / when @ b / text @ / end / end / end / write t", answers{"m": "1", "l": "a\nb"}, 11, "b\n", "m", "l")
	wantOut(t, "each l / cat @ / end / write t", answers{"l": "a\nb/c\na", "a": "A", "b/c": "B"}, 11, "ABA", "l", "a", "b/c")
	wantOut(t, "each l / each @ / text @ / end / end / write t", answers{"l": "a\nb", "a": "1\n2", "b": "3"}, 18, "1\n2\n3\n", "l", "a", "b")
	wantOut(t, "each l / each @.x / cat @/y / end / end / write t", answers{"l": "a", "a.x": "1\n2", "1/y": "3", "2/y": "4"}, 10, "34", "l", "a.x", "1/y", "2/y")
	wantRan(t, read("each l / text @ / write @ / end"), []string{"b", "a"}, answers{"l": "a\nb"}, asking(done(11, "b\n", "a\n"), "l"))
	wantRan(t, read("write a@b"), []string{"ab"}, nil, done(1, ""))
	wantFailed(t, "each l / fail x @ @y / end", a, 3, api.ErrFail, "x a ay", "l")
	wantFailed(t, "fail @ @", a, 1, api.ErrFail, " ")
}

// Words that come to no path.
func TestWordsWithoutPath(t *testing.T) {
	long := times(31, "a") + "/" + times(31, "a")
	for _, w := range []string{"", ".", "..", "/", "../x", "a/..", "a/../..", "A", "a b", "a\n", "%", "x\x00", "\xff", times(33, "a"), long, times(1<<20, "a"), times(1<<20, "a/") + ".."} {
		for _, op := range []int{api.OpNeed, api.OpCat, api.OpWrite, api.OpEach} {
			wantRan(t, list(text(), stmt(op, w), stmt(api.OpFail)), one, nil, failed(3, api.ErrPath, w))
			if !strings.Contains(w, "\n") && len(w) < 200 {
				wantRan(t, list(each("l", stmt(op, "@")), stmt(api.OpFail)), one, answers{"l": w + "\n"}, asking(failed(3, api.ErrPath, w), "l"))
			}
		}
	}
	wantFailed(t, "need @", nil, 1, api.ErrPath, "")
	wantFailed(t, "write ../@x@", nil, 1, api.ErrPath, "../x")
	wantFailed(t, "each l / cat @/.. / end", answers{"l": "a/b\nc", "a": ""}, 5, api.ErrPath, "c/..", "l", "a")
	wantFailed(t, "each l / each @ / end / end", answers{"l": "@"}, 3, api.ErrPath, "@", "l")
	wantOut(t, "each l / need @ / end / write ./x/../t", answers{"l": "/a\na/", "a": "z"}, 6, "", "l", "a")
	p := long[3:]
	wantRan(t, list(stmt(api.OpNeed, times(1000, "a/../")+p), stmt(api.OpWrite, "t")), one, answers{p: ""}, asking(done(2, ""), p))
}

// A target written twice, none written, one of several not written, one written that is no target.
func TestWrites(t *testing.T) {
	two := []string{"b", "a"}
	wantRan(t, read("text x / write a / text y / write b"), two, nil, done(8, "y\n", "x\n"))
	wantRan(t, read("text x / write b / write a"), two, nil, done(5, "x\n", ""))
	wantRan(t, read("text x / write x/../b / upper / write ./a/"), two, nil, done(6, "x\n", ""))
	wantRan(t, read("text x / write b / text y / write a / text z"), two, nil, done(11, "x\n", "y\n"))
	wantRan(t, read("write a"), two, nil, failed(1, api.ErrOutput, "b"))
	wantRan(t, read("write b"), two, nil, failed(1, api.ErrOutput, "a"))
	wantRan(t, read("text x"), two, nil, failed(3, api.ErrOutput, "b"))
	wantRan(t, read("write a / write a / write b"), two, nil, failed(2, api.ErrOutput, "a"))
	wantRan(t, read("write a / write b / write ./a"), two, nil, failed(3, api.ErrOutput, "a"))
	wantRan(t, read("write a / write c/../c / write b"), two, nil, failed(2, api.ErrOutput, "c"))
	wantRan(t, read("write b/a"), two, nil, failed(1, api.ErrOutput, "b/a"))
	wantRan(t, read("repeat 2 / write a / end"), two, nil, failed(5, api.ErrOutput, "a"))
	four := []string{"d", "a", "c", "b"}
	for i, p := range four {
		var code []api.Stmt
		for _, q := range four[:i] {
			code = append(code, stmt(api.OpWrite, q))
		}
		wantRan(t, code, four, nil, failed(len(code), api.ErrOutput, p))
		code = nil
		for _, q := range four {
			if q != p {
				code = append(code, stmt(api.OpWrite, q))
			}
		}
		wantRan(t, code, four, nil, failed(3, api.ErrOutput, p))
		wantRan(t, append(code, text(p), stmt(api.OpWrite, p)), four, nil, done(7, slices.Concat(make([]string, i), []string{p + "\n"}, make([]string, 3-i))...))
	}
}

// text with no words, one, several; with words that have blanks, quotes, bytes 10.
func TestTexts(t *testing.T) {
	for _, words := range [][]string{nil, {""}, {"", ""}, {"a"}, {"a", "b"}, {"a", "", "b"}, {" ", "a b"}, {"\""}, {"a\nb", "\n"}, {"\x00", "\xff", "é"}, {"end", "text"}} {
		want := strings.Join(words, " ")
		wantRan(t, list(text(words...), stmt(api.OpWrite, "t")), one, nil, done(3+len(want), want+"\n"))
		wantRan(t, list(text("x"), text(words...), stmt(api.OpWrite, "t")), one, nil, done(6+len(want), "x\n"+want+"\n"))
		wantRan(t, list(stmt(api.OpFail, words...), stmt(api.OpWrite, "t")), one, nil, failed(1, api.ErrFail, want))
	}
	wantRan(t, list(stmt(api.OpFail, times(1<<20, "a"), "b")), one, nil, failed(1, api.ErrFail, times(1<<20, "a")+" b"))
	wantRan(t, list(each("x", stmt(api.OpFail, times(1000, "@")))), one, answers{"x": times(256, "a")}, asking(failed(3, api.ErrFail, times(256000, "a")), "x"))
}

// when with words alike and unlike, with and without @.
func TestWhens(t *testing.T) {
	for _, x := range []struct {
		v, w, line string
		is         bool
	}{
		{"a", "a", "", true}, {"a", "b", "", false}, {"", "", "", true}, {"a", "", "", false}, {"a", "A", "", false}, {"a", "a ", "", false},
		{"a", "./a", "", false}, {"\xff", "\xff", "", true}, {"\xff", "\xfe", "", false},
		{"@", "", "", true}, {"@", "@@", "", true}, {"a@", "@a", "", true}, {"@a@b", "ab", "", true}, {"@", "@", "", true}, {"@", " ", "", false},
		{"@", "a", "a", true}, {"@", "b", "a", false}, {"a", "@", "a", true}, {"@@", "aa", "a", true}, {"@@", "@a", "a", true}, {"@b", "b@", "a", false}, {"@a", "a@", "aaa", true},
		{"@", "@", "a", true}, {"@", "", "a", false}, {"@", "@@", "a", false}, {"@@", "@", "a", false}, {"@", "@", "@", true}, {"@@", "@", "@", false}, {"@", "@@", "@@", false},
	} {
		code := list(when(x.v, x.w, text("yes")), stmt(api.OpWrite, "t"))
		want := done(2, "")
		if x.is {
			want = done(7, "yes\n")
		}
		if x.line == "" {
			wantRan(t, code, one, nil, want)
			wantRan(t, list(repeat(1, code...)), one, nil, done(want.Used+2, want.Outputs...))
		} else {
			wantRan(t, list(each("l", code...)), one, answers{"l": x.line}, asking(done(want.Used+2, want.Outputs...), "l"))
		}
	}
}

// each over contents of one line and none, in order; its content is what was told first.
func TestEaches(t *testing.T) {
	wantOut(t, "each l / fail / end / write t", answers{"l": ""}, 2, "", "l")
	wantOut(t, "each l / end / each l / text @ / end / write t", answers{"l": "b\na"}, 13, "b\na\n", "l")
	wantOut(t, "each l / each l / text @ / end / end / write t", answers{"l": "b\na"}, 22, "b\na\nb\na\n", "l")
	wantFailed(t, "each l / end", answers{"l": "a"}, 2, api.ErrOutput, "t", "l")
	wantFailed(t, "each l / need @ / end", answers{"l": "a\nb\nc\nd\ne\nf\ng\nh", "a": "", "b": "", "c": "", "d": "", "e": "", "f": "", "g": ""}, 17, api.ErrNeeds, "h", "l", "a", "b", "c", "d", "e", "f", "g")
}
