package action_test

import (
	"fmt"
	"math"
	"slices"
	"testing"

	"brickyard/action"
	"brickyard/api"
	"brickyard/lex"
)

// oneOfEach is a statement of each kind, that may be.
func oneOfEach() []api.Stmt {
	return list(stmt(api.OpNeed, "a"), stmt(api.OpCat, "a"), stmt(api.OpText, "a", "b"), upper(), stmt(api.OpSort), stmt(api.OpUniq), stmt(api.OpCount), stmt(api.OpWrite, "a"), stmt(api.OpFail, "a"), repeat(5, upper()), each("a", upper()), when("a", "b", upper()))
}

func wantRefused(t *testing.T, l []api.Stmt) {
	t.Helper()
	if action.May(l) {
		t.Errorf("May(%.300s): true", whole(l))
	}
	if lines, e := action.Lines(l); len(lines) != 0 || e != api.ErrArg {
		t.Errorf("Lines(%.300s): %.300q, %v", whole(l), lines, e)
	}
	if s, e := action.Print(l); s != "" || e != api.ErrArg {
		t.Errorf("Print(%.300s): %.300q, %v", whole(l), s, e)
	}
	if !action.Same(l, l) {
		t.Errorf("%.300s is not the same as itself", whole(l))
	}
}

// wantNot: a statement that may not be, alone, among others that may be, and in bodies.
func wantNot(t *testing.T, s api.Stmt) {
	t.Helper()
	good := upper()
	for _, l := range [][]api.Stmt{{s}, {s, good}, {good, s}, {good, s, good}} {
		wantRefused(t, l)
		wantRefused(t, list(repeat(1, l...)))
		wantRefused(t, list(good, each("a", l...), good))
		wantRefused(t, list(when("a", "b", good, repeat(0, l...), good)))
		wantRefused(t, nested(7, func(body ...api.Stmt) api.Stmt { return each("a", body...) }, l...))
	}
}

// P13.2, P13.3
func TestMay(t *testing.T) {
	wantBack(t, nil, nil)
	wantBack(t, list(), nil)
	for i, line := range cut("need a / cat a / text a b / upper / sort / uniq / count / write a / fail a") {
		s := oneOfEach()[i]
		wantBack(t, list(s), [][]string{line})
		wantBack(t, list(s, s), [][]string{line, line})
		wantBack(t, list(repeat(0, s), s), [][]string{{"repeat", "0"}, line, {"end"}, line})
		s.Body = list()
		wantBack(t, list(s), [][]string{line})
		if len(s.Args) == 0 {
			s.Args = []string{}
			wantBack(t, list(s), [][]string{line})
		}
	}
	wantBack(t, oneOfEach()[9:], cut("repeat 5 / upper / end / each a / upper / end / when a b / upper / end"))
	wantBack(t, list(stmt(api.OpText), stmt(api.OpFail)), cut("text / fail"))
	wantBack(t, list(api.Stmt{Op: api.OpRepeat, Args: []string{}, N: 1000, Body: list()}), cut("repeat 1000 / end"))
	wantBack(t, list(stmt(api.OpText, "end", "", " ", "\n\x00\xff", ":", "\"")), [][]string{{"text", "end", "", " ", "\n\x00\xff", ":", "\""}})
}

// P13.3: the chapter's form of each word.
func TestPrint(t *testing.T) {
	l := list(stmt(api.OpText, "a", "a b", "", ":", "=", "#", "a:b", "\"", "\\", "\n", "\t", "\x00\xff", "end"), repeat(10, each("@", when("", "$(X)", stmt(api.OpFail)))), stmt(api.OpWrite, "%.o"))
	want := "text a \"a b\" \"\" \":\" \"=\" \"#\" \"a:b\" \"\\\"\" \"\\\\\" \"\\n\" \"\\t\" \"\x00\xff\" end\nrepeat 10\neach @\nwhen \"\" $(X)\nfail\nend\nend\nend\nwrite %.o\n"
	if s, e := action.Print(l); s != want || e != api.OK {
		t.Errorf("Print: %q, %v, want %q", s, e, want)
	}
	for _, none := range [][]api.Stmt{nil, {}} {
		if s, e := action.Print(none); s != "" || e != api.OK {
			t.Errorf("Print of nothing: %q, %v", s, e)
		}
	}
}

// P13.3, P13.4: a text that is longer than MaxText is told all the same.
func TestLongTexts(t *testing.T) {
	for _, n := range []int{api.MaxText - 6, api.MaxText - 5, 2 * api.MaxText} {
		l := list(stmt(api.OpCat, times(n, "a")))
		wantBack(t, l, [][]string{{"cat", times(n, "a")}})
		s, _ := action.Print(l)
		if _, spot := lex.Lines(s); (spot.Err == api.ErrLong) != (len(s) > api.MaxText) || len(s) != n+5 {
			t.Errorf("%d bytes: %v", len(s), spot)
		}
	}
	words := slices.Repeat([]string{"\n"}, 9000)
	wantBack(t, list(stmt(api.OpText, words...)), [][]string{append([]string{"text"}, words...)})
}

// P13.2: kinds below 1 and above 12.
func TestMayNotByKind(t *testing.T) {
	for _, s := range append(oneOfEach(), api.Stmt{}, api.Stmt{N: 1}, api.Stmt{Body: list(upper())}) {
		for _, op := range []int{math.MinInt, -256, -12, -2, -1, 0, 13, 14, 25, 257, 260, 1 << 32, 1<<32 + 4, math.MaxInt} {
			s.Op = op
			wantNot(t, s)
		}
	}
}

// P13.2: too few and too many Args.
func TestMayNotByArgs(t *testing.T) {
	takes := map[int][]int{api.OpNeed: {1}, api.OpCat: {1}, api.OpWrite: {1}, api.OpText: {0, 1, 2, 3, 300}, api.OpFail: {0, 1, 2, 3, 300}, api.OpUpper: {0}, api.OpSort: {0}, api.OpUniq: {0}, api.OpCount: {0}, api.OpRepeat: {0}, api.OpEach: {1}, api.OpWhen: {2}}
	for _, s := range oneOfEach() {
		for _, n := range []int{0, 1, 2, 3, 300} {
			for _, w := range []string{"a", "", "7"} {
				s.Args = slices.Repeat([]string{w}, n)
				if slices.Contains(takes[s.Op], n) {
					if !action.May(list(s)) || !action.May(list(repeat(1, s))) {
						t.Errorf("May(%s): false", whole(list(s)))
					}
					continue
				}
				wantNot(t, s)
			}
		}
	}
}

// P13.2: N where none may be, and out of its bounds.
func TestMayNotByNumber(t *testing.T) {
	for _, s := range oneOfEach() {
		for _, n := range []int{math.MinInt, -1001, -1000, -1, 1, 2, 999, 1000, 1001, 1 << 32, math.MaxInt} {
			if s.N = n; s.Op == api.OpRepeat && n >= 0 && n <= 1000 {
				wantBack(t, list(s), [][]string{{"repeat", fmt.Sprint(n)}, {"upper"}, {"end"}})
				continue
			}
			wantNot(t, s)
		}
	}
}

// P13.2: a Body where none may be, and statements in bodies that may not be.
func TestMayNotByBody(t *testing.T) {
	for _, s := range oneOfEach()[:9] {
		for _, body := range [][]api.Stmt{{upper()}, {{}}, {s}, {repeat(1)}, {upper(), upper()}} {
			s.Body = body
			wantNot(t, s)
		}
	}
	for _, bad := range list(api.Stmt{}, stmt(api.OpNeed), stmt(13), stmt(api.OpUpper, "a"), repeat(-1), repeat(1001), each("a", api.Stmt{}), when("a", "b", stmt(api.OpWhen, "a"))) {
		wantNot(t, bad)
	}
}

// P13.2: 256 and 257 statements, in bodies and without.
func TestMayBySize(t *testing.T) {
	for n := 250; n < 260; n++ {
		for _, l := range [][]api.Stmt{
			uppers(n), {repeat(1, uppers(n-1)...)}, append(uppers(n-1), each("a")), append(uppers(9), when("a", "b", uppers(n-10)...)),
			append(list(repeat(1, uppers(99)...), repeat(2, repeat(3, uppers(98)...))), uppers(n-200)...), slices.Repeat(list(each("a")), n),
		} {
			if action.Size(l) != n {
				t.Errorf("Size: %d, want %d", action.Size(l), n)
			}
			if n > 256 {
				wantRefused(t, l)
			} else if _, e := action.Lines(l); !action.May(l) || e != api.OK {
				t.Errorf("%d statements: %v", n, e)
			}
		}
	}
	wantRefused(t, uppers(100000))
}

// P13.2: 8 and 9 bodies in one another, the last one empty and not.
func TestMayByDepth(t *testing.T) {
	makers := []func(body ...api.Stmt) api.Stmt{
		func(body ...api.Stmt) api.Stmt { return repeat(9, body...) },
		func(body ...api.Stmt) api.Stmt { return each("a", body...) },
		func(body ...api.Stmt) api.Stmt { return when("b", "c", body...) },
	}
	for _, make := range makers {
		for n := range 70 {
			for _, inner := range [][]api.Stmt{nil, {}, {upper()}, {upper(), stmt(api.OpText)}} {
				l := nested(n, make, inner...)
				wide := slices.Concat(list(upper(), repeat(1)), l, list(repeat(1, repeat(2))))
				if action.Deep(l) != n || action.Size(l) != n+len(inner) || action.Deep(wide) != max(n, 2) || action.Size(wide) != n+len(inner)+4 {
					t.Errorf("%d bodies: Deep %d, Size %d; %d, %d", n, action.Deep(l), action.Size(l), action.Deep(wide), action.Size(wide))
				}
				if action.May(l) != (n <= 8) || action.May(wide) != (n <= 8) {
					t.Errorf("%d bodies: %v, %v", n, action.May(l), action.May(wide))
				}
				if n > 8 {
					wantRefused(t, l)
					wantRefused(t, wide)
				}
			}
		}
	}
}

// P13.2: Size and Deep of lists that may not be.
func TestSizeAndDeepOfAnyLists(t *testing.T) {
	odd := func(op int, body ...api.Stmt) api.Stmt {
		return api.Stmt{Op: op, Args: []string{"a", "b", "c"}, N: -1, Body: body}
	}
	for _, x := range []struct {
		l          []api.Stmt
		size, deep int
	}{
		{nil, 0, 0}, {list(), 0, 0}, {list(api.Stmt{}), 1, 0}, {uppers(3000), 3000, 0},
		{list(repeat(-1)), 1, 1}, {list(odd(api.OpEach)), 1, 1}, {list(odd(api.OpWhen), odd(99)), 2, 1}, {list(repeat(0, repeat(0)), upper()), 3, 2},
		{list(odd(api.OpUpper, odd(0, odd(-5))), odd(13)), 4, 2}, {list(odd(math.MinInt, upper(), upper()), odd(math.MaxInt)), 4, 1},
		{list(api.Stmt{Op: api.OpUpper, Body: list()}), 1, 0}, {list(repeat(1, uppers(7)...), repeat(1, repeat(1, uppers(5)...))), 15, 2},
	} {
		if action.Size(x.l) != x.size || action.Deep(x.l) != x.deep {
			t.Errorf("%.200s: Size %d, Deep %d, want %d, %d", whole(x.l), action.Size(x.l), action.Deep(x.l), x.size, x.deep)
		}
	}
}

// R1: lists that are as deep as may be, and ones that hold themselves.
func TestEveryCallEnds(t *testing.T) {
	const most = 1 << 16
	wrap := func(body ...api.Stmt) api.Stmt { return repeat(1, body...) }
	l, other, upperEnd := nested(most, wrap), nested(most, wrap), nested(most, wrap, upper())
	if action.Size(l) != most || action.Deep(l) != most || action.May(l) || !action.Same(l, other) || action.Same(l, upperEnd) || action.Size(upperEnd) != most+1 {
		t.Errorf("Size %d, Deep %d", action.Size(l), action.Deep(l))
	}
	if _, e := action.Lines(l); e != api.ErrArg {
		t.Errorf("Lines: %v", e)
	}
	itself := list(repeat(1))
	itself[0].Body = itself
	lines, e := action.Lines(itself)
	s, f := action.Print(itself)
	if action.May(itself) || len(lines) != 0 || e != api.ErrArg || s != "" || f != api.ErrArg {
		t.Errorf("May %v, Lines %q, %v, Print %q, %v", action.May(itself), lines, e, s, f)
	}
	action.Size(itself)
	action.Deep(itself)
	action.Same(itself, itself)
	wide := slices.Repeat(list(repeat(1)), 3)
	for i := range wide {
		wide[i].Body = wide
	}
	if action.May(wide) {
		t.Error("May of a list that holds itself three times: true")
	}
}

func wantSame(t *testing.T, is bool, a, b []api.Stmt) {
	t.Helper()
	if action.Same(a, b) != is || action.Same(b, a) != is {
		t.Errorf("Same(%.200s, %.200s): not %v", whole(a), whole(b), is)
	}
	s, e := action.Print(a)
	r, f := action.Print(b)
	if e == api.OK && f == api.OK && (s == r) != is {
		t.Errorf("Print: %q and %q", s, r)
	}
}

// P13.2: lists that differ in one thing alone.
func TestSame(t *testing.T) {
	base := func() []api.Stmt {
		return list(stmt(api.OpText, "a", "b"), upper(), repeat(2, stmt(api.OpCat, "c"), each("d", stmt(api.OpFail), when("e", "f", stmt(api.OpNeed, "g")))))
	}
	type change = func(l []api.Stmt)
	changes := []change{
		func(l []api.Stmt) { l[0].Op = api.OpFail },
		func(l []api.Stmt) { l[0].Op = 0 },
		func(l []api.Stmt) { l[0].Op = math.MinInt },
		func(l []api.Stmt) { l[0].Args[0] = "A" },
		func(l []api.Stmt) { l[0].Args[1] = "" },
		func(l []api.Stmt) { l[0].Args[1] = "b " },
		func(l []api.Stmt) { l[0].Args = nil },
		func(l []api.Stmt) { l[0].Args = l[0].Args[:1] },
		func(l []api.Stmt) { l[0].Args = append(l[0].Args, "b") },
		func(l []api.Stmt) { l[0].Args = append(l[0].Args, "") },
		func(l []api.Stmt) { l[0].Args = []string{"a b"} },
		func(l []api.Stmt) { slices.Reverse(l[0].Args) },
		func(l []api.Stmt) { l[0].N = 1 },
		func(l []api.Stmt) { l[0].Body = list(upper()) },
		func(l []api.Stmt) { l[1].Op = api.OpSort },
		func(l []api.Stmt) { l[1].Args = []string{""} },
		func(l []api.Stmt) { l[1].Body = list(api.Stmt{}) },
		func(l []api.Stmt) { l[2].Op = api.OpEach },
		func(l []api.Stmt) { l[2].N = 3 },
		func(l []api.Stmt) { l[2].N = -2 },
		func(l []api.Stmt) { l[2].N = 2 + 1<<32 },
		func(l []api.Stmt) { l[2].Args = []string{"2"} },
		func(l []api.Stmt) { l[2].Body = nil },
		func(l []api.Stmt) { l[2].Body = l[2].Body[:1] },
		func(l []api.Stmt) { l[2].Body = append(l[2].Body, upper()) },
		func(l []api.Stmt) { slices.Reverse(l[2].Body) },
		func(l []api.Stmt) { l[2].Body[0].Args[0] = "" },
		func(l []api.Stmt) { l[2].Body[0].Op = api.OpNeed },
		func(l []api.Stmt) { l[2].Body[1].Args[0] = "D" },
		func(l []api.Stmt) { l[2].Body[1].Body = l[2].Body[1].Body[:1] },
		func(l []api.Stmt) { slices.Reverse(l[2].Body[1].Body[1].Args) },
		func(l []api.Stmt) { l[2].Body[1].Body[1].Body[0].Args[0] = "G" },
		func(l []api.Stmt) { l[2].Body[1].Body[1].Body[0].N = 1 },
		func(l []api.Stmt) { l[2].Body[1].Body[1].Body[0].Op = 13 },
		func(l []api.Stmt) { l[2].Body[1].Body[1].Body[0].Body = list(upper()) },
		func(l []api.Stmt) { l[2].Body[1].Body[1].Body = nil },
		func(l []api.Stmt) { l[0], l[1] = l[1], l[0] },
	}
	wantSame(t, true, base(), base())
	for i, change := range changes {
		l := base()
		if change(l); whole(l) == whole(base()) {
			t.Errorf("change %d is none", i)
		}
		wantSame(t, false, l, base())
		wantSame(t, true, l, l)
		wantSame(t, false, list(repeat(1, l...)), list(repeat(1, base()...)))
	}
	wantSame(t, false, base(), base()[:2])
	wantSame(t, false, base(), base()[1:])
	wantSame(t, false, base(), nil)
	wantSame(t, false, base(), append(base(), upper()))
	wantSame(t, false, list(repeat(1, upper()), upper()), list(repeat(1, upper(), upper())))
	wantSame(t, false, list(repeat(1, upper())), list(repeat(1), upper()))
}

// P13.2: nil lists and ones without elements.
func TestSameOfEmptyLists(t *testing.T) {
	wantSame(t, true, nil, nil)
	wantSame(t, true, nil, list())
	wantSame(t, true, list(), make([]api.Stmt, 0, 9))
	for op := -1; op < 14; op++ {
		a, b := api.Stmt{Op: op}, api.Stmt{Op: op, Args: []string{}, Body: list()}
		wantSame(t, true, list(a), list(b))
		wantSame(t, true, list(repeat(1, a)), list(repeat(1, b)))
		wantSame(t, false, list(a), nil)
		b.Args = []string{""}
		wantSame(t, false, list(a), list(b))
		b.Args, b.Body = nil, list(api.Stmt{})
		wantSame(t, false, list(a), list(b))
	}
}

// P13.5: lists that are near the limits.
func TestBehindAndAroundAtLimits(t *testing.T) {
	lines := func(l []api.Stmt) [][]string {
		out, e := action.Lines(l)
		if e != api.OK {
			t.Fatalf("Lines(%.200s): %v", whole(l), e)
		}
		return out
	}
	wrap := func(body ...api.Stmt) api.Stmt { return when("a", "b", body...) }
	for _, x := range [][2][]api.Stmt{{uppers(128), uppers(128)}, {uppers(256), nil}, {{repeat(1, uppers(99)...)}, {each("a", uppers(155)...)}}, {nested(8, wrap), nested(8, wrap, upper())}} {
		wantParsed(t, slices.Concat(lines(x[0]), lines(x[1])), slices.Concat(x[0], x[1])...)
	}
	around := func(l []api.Stmt) [][]string { return slices.Concat(cut("repeat 4"), lines(l), cut("end")) }
	wantWrong(t, slices.Concat(lines(uppers(128)), lines(uppers(129))), api.ErrLong, 256)
	wantWrong(t, slices.Concat(lines(list(each("a", uppers(155)...))), lines(uppers(101))), api.ErrLong, 257)
	wantParsed(t, around(uppers(255)), repeat(4, uppers(255)...))
	wantWrong(t, around(uppers(256)), api.ErrLong, 256)
	wantParsed(t, around(nested(7, wrap)), repeat(4, nested(7, wrap)...))
	wantWrong(t, around(nested(8, wrap)), api.ErrDeep, 8)
}

// R3: what is handed in is not changed, the room behind its end neither.
func TestArgumentsAreKept(t *testing.T) {
	words := []string{"a", "b", "behind", "further"}
	body := list(stmt(api.OpText, words[:2]...), stmt(api.OpFail, words[:1]...), stmt(api.OpSort), stmt(api.OpUniq))
	body[0].Args, body[1].Args = words[:2], words[:1]
	l := list(api.Stmt{Op: api.OpEach, Args: words[:1], Body: body[:2]}, api.Stmt{Op: api.OpWhen, Args: words[:2], Body: body[:1]}, stmt(api.OpCount), upper())
	was := fmt.Sprintf("%#v %#v %#v", l, body, words)
	want := "each a\ntext a b\nfail a\nend\nwhen a b\ntext a b\nend\n"
	for range 2 {
		if s, e := action.Print(l[:2]); e != api.OK || s != want {
			t.Errorf("Print: %q, %v", s, e)
		}
		if !action.May(l[:2]) || !action.Same(l[:2], l[:2]) || action.Same(l[:2], l[:3]) || action.Size(l[:2]) != 5 || action.Deep(l[:2]) != 1 {
			t.Error("May, Same, Size or Deep")
		}
		lines, _ := action.Lines(l[:2])
		for i := range lines {
			kept := fmt.Sprintf("%q%q", lines[:i], lines[i+1:])
			if clearWords(lines[i]); fmt.Sprintf("%q%q", lines[:i], lines[i+1:]) != kept {
				t.Errorf("line %d, written over, is in others", i)
			}
		}
		clear(lines[:cap(lines)])
	}
	if fmt.Sprintf("%#v %#v %#v", l, body, words) != was {
		t.Error("what was handed in is changed")
	}
}
