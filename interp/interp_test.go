package interp_test

import (
	"fmt"
	"math"
	"slices"
	"strings"
	"testing"

	"brickyard/action"
	"brickyard/api"
	"brickyard/interp"
)

func times(n int, s string) string { return strings.Repeat(s, n) }

func stmt(op int, args ...string) api.Stmt { return api.Stmt{Op: op, Args: args} }

func list(l ...api.Stmt) []api.Stmt { return l }

func text(words ...string) api.Stmt { return stmt(api.OpText, words...) }

func repeat(n int, body ...api.Stmt) api.Stmt { return api.Stmt{Op: api.OpRepeat, N: n, Body: body} }

func each(w string, body ...api.Stmt) api.Stmt {
	return api.Stmt{Op: api.OpEach, Args: []string{w}, Body: body}
}

func when(v, w string, body ...api.Stmt) api.Stmt {
	return api.Stmt{Op: api.OpWhen, Args: []string{v, w}, Body: body}
}

// read is an action written as the chapter's examples are: " / " between two lines, a blank between two words.
func read(s string) []api.Stmt {
	var lines [][]string
	for _, line := range strings.Split(s, " / ") {
		if s != "" {
			lines = append(lines, strings.Fields(line))
		}
	}
	l, spot := action.Parse(lines)
	if spot != (api.Spot{}) {
		panic(fmt.Sprint(s, spot))
	}
	return l
}

// answers is what the paths have that are asked for; of others there is none.
type answers map[string]string

func (a answers) ask(p string) (string, bool) {
	s, is := a[p]
	return s, is
}

func done(used int, outputs ...string) api.Ran {
	return api.Ran{Event: api.RunEvent{Kind: api.RunDone}, Outputs: outputs, Used: used}
}

func failed(used int, why api.Errno, text string) api.Ran {
	return api.Ran{Event: api.RunEvent{Kind: api.RunFailed, Why: why, Text: text}, Used: used}
}

func asking(r api.Ran, needs ...string) api.Ran {
	r.Needs = needs
	return r
}

func sameRan(a, b api.Ran) bool {
	return a.Event == b.Event && a.Used == b.Used && slices.Equal(a.Outputs, b.Outputs) && slices.Equal(a.Needs, b.Needs)
}

func standing(r *interp.Run, event api.RunEvent) api.Ran {
	return api.Ran{Event: event, Outputs: r.Outputs(), Needs: r.Needs(), Used: r.Used()}
}

// stepped is what a run comes to that is stepped to its end.
func stepped(t *testing.T, r *interp.Run, a answers) api.Ran {
	t.Helper()
	for {
		event := r.Step()
		if event.Kind != api.RunNeed {
			return standing(r, event)
		}
		e := api.OK
		if s, is := a[event.Path]; is {
			e = r.Give(s)
		} else {
			e = r.Lack()
		}
		if e != api.OK {
			t.Fatalf("told of %q: %v", event.Path, e)
		}
	}
}

// shown is the beginning of what fmt tells of something.
func shown(x any) string { return fmt.Sprintf("%.400s", fmt.Sprintf("%q", fmt.Sprint(x))) }

func wantDo(t *testing.T, code []api.Stmt, targets []string, fuel int, a answers, want api.Ran) {
	t.Helper()
	if got, e := interp.Do(code, targets, fuel, a.ask); e != api.OK || !sameRan(got, want) {
		t.Errorf("Do(%s, %q, %d): %s, %v, want %s", shown(code), targets, fuel, shown(got), e, shown(want))
	}
}

// wantRan: what a run comes to, by Do, by steps, and with other fuel (P14.6, P14.8).
func wantRan(t *testing.T, code []api.Stmt, targets []string, a answers, want api.Ran) {
	t.Helper()
	got, e := interp.Do(code, targets, api.MaxFuel, a.ask)
	if e != api.OK || !sameRan(got, want) {
		t.Errorf("Do(%s, %q): %s, %v, want %s", shown(code), targets, shown(got), e, shown(want))
		return
	}
	r, e := interp.New(code, targets, api.MaxFuel)
	if got := stepped(t, r, a); e != api.OK || !sameRan(got, want) {
		t.Errorf("New(%s, %q), stepped: %s, %v, want %s", shown(code), targets, shown(got), e, shown(want))
	}
	wantFuel(t, code, targets, a, want)
}

// P14.8: a run that did not fail by ErrFuel, with just enough fuel, with a little more, and with less.
func wantFuel(t *testing.T, code []api.Stmt, targets []string, a answers, ran api.Ran) {
	t.Helper()
	wantDo(t, code, targets, ran.Used, a, ran)
	wantDo(t, code, targets, min(ran.Used+1, api.MaxFuel), a, ran)
	for fuel := ran.Used - 1; fuel >= 0; fuel = min(fuel-1, fuel-fuel/40) {
		got, e := interp.Do(code, targets, fuel, a.ask)
		want := asking(failed(fuel, api.ErrFuel, ""), got.Needs...)
		if e != api.OK || !sameRan(got, want) || len(got.Needs) > len(ran.Needs) || !slices.Equal(got.Needs, ran.Needs[:len(got.Needs)]) {
			t.Errorf("Do(%s, %q, %d): %s, %v; with more fuel it comes to %s", shown(code), targets, fuel, shown(got), e, shown(ran))
		}
	}
}

// The chapter's examples.
func TestExamples(t *testing.T) {
	r, e := interp.New(read("cat a.c / upper / write a.o"), []string{"a.o"}, 100)
	if e != api.OK || r.Step() != (api.RunEvent{Kind: api.RunNeed, Path: "a.c"}) || r.Give("ab") != api.OK {
		t.Errorf("%v, %v", r.Step(), e)
	}
	if got := stepped(t, r, nil); !sameRan(got, asking(done(5, "AB"), "a.c")) {
		t.Errorf("%v", got)
	}
	one := []string{"t"}
	wantDo(t, read("need x / need x / write t"), one, 9, answers{"x": "ab"}, asking(done(3, ""), "x"))
	wantRan(t, read("need x / need x / write t"), one, answers{"x": "ab"}, asking(done(3, ""), "x"))
	wantRan(t, read("text b / text a / text b / sort / uniq / write t"), one, nil, done(12, "a\nb\n"))
	wantRan(t, read("each list / text @ / end / write t"), one, answers{"list": "a\nb"}, asking(done(10, "a\nb\n"), "list"))
	thrice := read("repeat 3 / text x / end / write t")
	wantDo(t, thrice, one, 11, nil, failed(11, api.ErrFuel, ""))
	wantDo(t, thrice, one, 13, nil, failed(13, api.ErrFuel, ""))
	wantDo(t, thrice, one, 14, nil, done(14, "x\nx\nx\n"))
	wantRan(t, read("write u"), one, nil, failed(1, api.ErrOutput, "u"))
	wantRan(t, read("write t / write t"), one, nil, failed(2, api.ErrOutput, "t"))
	wantRan(t, read("upper"), one, nil, failed(1, api.ErrOutput, "t"))
	wantRan(t, read("cat ../x"), one, nil, failed(1, api.ErrPath, "../x"))
	wantRan(t, read("fail a b"), one, nil, failed(1, api.ErrFail, "a b"))
	wantRan(t, read("when a a / fail / end"), one, nil, failed(2, api.ErrFail, ""))
	wantRefused(t, read("write t"), nil, 100)
	wantRefused(t, read("write t"), []string{"t", "t"}, 100)
	wantRefused(t, read("write t"), one, -1)
}

func wantRefused(t *testing.T, code []api.Stmt, targets []string, fuel int) {
	t.Helper()
	if r, e := interp.New(code, targets, fuel); r != nil || e != api.ErrArg {
		t.Errorf("New of %d statements, %.200q, %d: %v, %v", len(code), targets, fuel, r, e)
	}
	ask := func(p string) (string, bool) {
		t.Errorf("Do of %d statements, %.200q, %d asks for %q", len(code), targets, fuel, p)
		return "", true
	}
	if ran, e := interp.Do(code, targets, fuel, ask); e != api.ErrArg || !sameRan(ran, api.Ran{}) {
		t.Errorf("Do of %d statements, %.200q, %d: %v, %v", len(code), targets, fuel, ran, e)
	}
}

// P14.1, P14.5: fuel.
func TestFuelThatMayBe(t *testing.T) {
	code := read("text a / write t")
	for _, fuel := range []int{0, 1, 3} {
		wantDo(t, code, []string{"t"}, fuel, nil, failed(fuel, api.ErrFuel, ""))
	}
	for _, fuel := range []int{4, 5, 100, api.MaxFuel - 1, api.MaxFuel} {
		wantDo(t, code, []string{"t"}, fuel, nil, done(4, "a\n"))
	}
	for _, fuel := range []int{-1, -2, math.MinInt, api.MaxFuel + 1, 2 * api.MaxFuel, 1 << 32, math.MaxInt} {
		wantRefused(t, code, []string{"t"}, fuel)
		wantRefused(t, nil, []string{"t"}, fuel)
	}
}

// P14.1, P14.5: targets.
func TestTargetsThatMayBe(t *testing.T) {
	long := times(27, "a") + "/" + times(32, "b")
	for _, l := range [][]string{{"t"}, {"a", "b"}, {"b", "a"}, {"a", "b", "c"}, {"d", "c", "b", "a"}, {"a", "a/b", "a/b/c", "a.b"}, {long}, {"...", "-", "_", "0"}} {
		var code []api.Stmt
		var outputs []string
		for i, p := range l {
			code = append(code, text(fmt.Sprint(i)), stmt(api.OpWrite, p))
			outputs = append(outputs, fmt.Sprintln(i))
		}
		wantRan(t, code, l, nil, done(4*len(l), outputs...))
		wantRan(t, nil, l, nil, failed(0, api.ErrOutput, l[0]))
	}
	for _, l := range [][]string{nil, {}, {"a", "b", "c", "d", "e"}, {"a", "b", "a"}, {"a", "b", "b"}, {"a", "b", "c", "a"}, {"a", "b", "c", "c"}, {"a", "a", "a", "a"}, slices.Repeat([]string{"a"}, 9), make([]string, 300)} {
		wantRefused(t, nil, l, 100)
	}
	for _, p := range []string{"", ".", "..", "/", "/a", "a/", "a//b", "./a", "a/.", "a/../b", "A", "a b", "@", "%", "a\n", "\x00", "\xff", "é", times(33, "a"), "a" + long, times(40, "a/") + "a"} {
		wantRefused(t, nil, []string{p}, 100)
		wantRefused(t, nil, []string{"t", p}, 100)
		wantRefused(t, nil, []string{"t", "u", "v", p}, 100)
	}
}

// P14.1, P14.5: actions.
func TestActionsThatMayBe(t *testing.T) {
	upper := stmt(api.OpUpper)
	deep := func(n int) []api.Stmt {
		l := list(upper)
		for range n {
			l = list(repeat(1, l...))
		}
		return l
	}
	one := []string{"t"}
	wantDo(t, nil, one, 9, nil, failed(0, api.ErrOutput, "t"))
	wantDo(t, list(), one, 0, nil, failed(0, api.ErrOutput, "t"))
	wantDo(t, deep(8), one, 99, nil, failed(17, api.ErrOutput, "t"))
	wantDo(t, slices.Repeat(list(upper), 256), one, 999, nil, failed(256, api.ErrOutput, "t"))
	self := []api.Stmt{repeat(1)}
	self[0].Body = self
	for _, l := range [][]api.Stmt{
		deep(9), slices.Repeat(list(upper), 257), list(repeat(1, slices.Repeat(list(upper), 256)...)), self,
		list(api.Stmt{}), list(stmt(-1)), list(stmt(13)), list(stmt(math.MinInt)), list(stmt(math.MaxInt)),
		list(stmt(api.OpNeed)), list(stmt(api.OpCat)), list(stmt(api.OpWrite)), list(stmt(api.OpNeed, "a", "b")), list(stmt(api.OpCat, "a", "b")), list(stmt(api.OpWrite, "a", "b")),
		list(stmt(api.OpUpper, "a")), list(stmt(api.OpSort, "a")), list(stmt(api.OpUniq, "a")), list(stmt(api.OpCount, "a")),
		list(repeat(-1)), list(repeat(1001)), list(repeat(math.MaxInt)), list(api.Stmt{Op: api.OpRepeat, Args: []string{"1"}}),
		list(stmt(api.OpEach)), list(stmt(api.OpEach, "a", "b")), list(stmt(api.OpWhen)), list(stmt(api.OpWhen, "a")), list(stmt(api.OpWhen, "a", "b", "c")),
		list(api.Stmt{Op: api.OpText, N: 1}), list(api.Stmt{Op: api.OpUpper, Body: list(upper)}), list(upper, api.Stmt{Op: api.OpFail, Body: list(upper)}),
		list(when("a", "b", stmt(api.OpNeed))), list(repeat(0, repeat(0, each("a", stmt(0))))),
	} {
		wantRefused(t, l, one, 100)
	}
}

// P14.5: each question is one call of ask, in the order of Needs.
func TestDoAsks(t *testing.T) {
	code := read("need b / cat a / each ./a / need x/../@ / cat b / end / need b / write t")
	var asked []string
	ran, e := interp.Do(code, []string{"t"}, 100, func(p string) (string, bool) {
		asked = append(asked, p)
		return map[string]string{"a": "c\na\nd\nc", "b": "B"}[p], true
	})
	if want := asking(done(28, "c\na\nd\ncBBBB"), "b", "a", "c", "d"); e != api.OK || !sameRan(ran, want) || !slices.Equal(asked, want.Needs) {
		t.Errorf("%v, %v, asks %q, want %v", ran, e, asked, want)
	}
	asked = nil
	ran, e = interp.Do(code, []string{"t"}, 100, func(p string) (string, bool) {
		asked = append(asked, p)
		return "c\nd", p != "c"
	})
	if want := asking(failed(8, api.ErrLack, "c"), "b", "a", "c"); e != api.OK || !sameRan(ran, want) || !slices.Equal(asked, want.Needs) {
		t.Errorf("%v, %v, asks %q, want %v", ran, e, asked, want)
	}
}

// P14.5: an ask that is nil, that says false, that answers too much.
func TestDoWithoutAnswers(t *testing.T) {
	one := []string{"t"}
	says := func(s string, is bool) func(string) (string, bool) {
		return func(string) (string, bool) { return s, is }
	}
	for _, line := range []string{"need x", "cat x", "each x / end", "each ./y/../x / fail / end"} {
		for _, ask := range []func(string) (string, bool){nil, says("", false), says("abc", false), says(times(257, "a"), false)} {
			if ran, e := interp.Do(read(line+" / fail"), one, 100, ask); e != api.OK || !sameRan(ran, asking(failed(1, api.ErrLack, "x"), "x")) {
				t.Errorf("%s: %v, %v", line, ran, e)
			}
		}
		for _, n := range []int{257, 258, 4096, 1 << 20} {
			if ran, e := interp.Do(read(line+" / fail"), one, 100, says(times(n, "a"), true)); e != api.OK || !sameRan(ran, asking(failed(1, api.ErrSize, "x"), "x")) {
				t.Errorf("%s, with %d bytes: %v, %v", line, n, ran, e)
			}
		}
	}
	if ran, e := interp.Do(read("text a / write t"), one, 100, nil); e != api.OK || !sameRan(ran, done(4, "a\n")) {
		t.Errorf("nothing is asked: %v, %v", ran, e)
	}
}

// R5, R7: a run may be done while another one is asking.
func TestDoWithinAsk(t *testing.T) {
	inner := func(p string) (string, bool) {
		ran, e := interp.Do(list(text(p), stmt(api.OpUpper), stmt(api.OpWrite, "t")), []string{"t"}, 99, nil)
		return strings.Join(ran.Outputs, ""), e == api.OK
	}
	ran, e := interp.Do(read("cat a / cat b / write t"), []string{"t"}, 99, inner)
	if e != api.OK || !sameRan(ran, asking(done(7, "A\nB\n"), "a", "b")) {
		t.Errorf("%v, %v", ran, e)
	}
}
