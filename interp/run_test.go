package interp_test

import (
	"fmt"
	"slices"
	"strings"
	"sync"
	"testing"

	"brickyard/api"
	"brickyard/interp"
)

func newRun(t *testing.T, code []api.Stmt, fuel int, targets ...string) *interp.Run {
	t.Helper()
	r, e := interp.New(code, targets, fuel)
	if r == nil || e != api.OK {
		t.Fatalf("New(%s, %q, %d): %v", shown(code), targets, fuel, e)
	}
	return r
}

func need(p string) api.RunEvent { return api.RunEvent{Kind: api.RunNeed, Path: p} }

// wantStanding: what is told of a run without a step.
func wantStanding(t *testing.T, r *interp.Run, used int, outputs []string, needs ...string) {
	t.Helper()
	if r.Used() != used || !slices.Equal(r.Outputs(), outputs) || !slices.Equal(r.Needs(), needs) {
		t.Errorf("Used %d, Outputs %q, Needs %q, want %d, %q, %q", r.Used(), r.Outputs(), r.Needs(), used, outputs, needs)
	}
}

// wantStill: a run that tells the same again and again, and is not to be told anything.
func wantStill(t *testing.T, r *interp.Run, want api.Ran) {
	t.Helper()
	for range 3 {
		if event := r.Step(); event != want.Event {
			t.Errorf("Step: %v, want %v", event, want.Event)
		}
		wantStanding(t, r, want.Used, want.Outputs, want.Needs...)
		if e := r.Give("a"); e != api.ErrNone {
			t.Errorf("Give: %v", e)
		}
		if e := r.Give(times(257, "a")); e != api.ErrNone {
			t.Errorf("Give of too much: %v", e)
		}
		if e := r.Lack(); e != api.ErrNone {
			t.Errorf("Lack: %v", e)
		}
		if got := stepped(t, r.Copy(), nil); !sameRan(got, want) {
			t.Errorf("a copy of it: %v, want %v", got, want)
		}
	}
}

// Of a nil run, and of one that New did not make.
func TestNoRun(t *testing.T) {
	for name, r := range map[string]*interp.Run{"nil": nil, "zero": {}, "zero, again": new(interp.Run)} {
		for range 2 {
			if event := r.Step(); event != (api.RunEvent{}) {
				t.Errorf("%s: Step: %v", name, event)
			}
			if e := r.Give("a"); e != api.ErrNil {
				t.Errorf("%s: Give: %v", name, e)
			}
			if e := r.Give(times(257, "a")); e != api.ErrNil {
				t.Errorf("%s: Give: %v", name, e)
			}
			if e := r.Lack(); e != api.ErrNil {
				t.Errorf("%s: Lack: %v", name, e)
			}
			wantStanding(t, r, 0, nil)
			if c := r.Copy(); c != nil {
				t.Errorf("%s: Copy: %v", name, c)
			}
		}
	}
}

// P14.1, P14.2, P14.3: a run that has not begun.
func TestNotBegun(t *testing.T) {
	r := newRun(t, read("cat x / write t"), 99, "t")
	for range 2 {
		wantStanding(t, r, 0, nil)
		if e := r.Give("a"); e != api.ErrNone {
			t.Errorf("Give: %v", e)
		}
		if e := r.Lack(); e != api.ErrNone {
			t.Errorf("Lack: %v", e)
		}
	}
	if event := r.Step(); event != need("x") {
		t.Errorf("Step: %v", event)
	}
	wantStanding(t, newRun(t, nil, 0, "t"), 0, nil)
}

// P14.2, P14.3: a run that is stopped, and told.
func TestStopped(t *testing.T) {
	r := newRun(t, read("text a / cat x / write t / text b / cat y / cat x / write u"), 99, "u", "t")
	for range 3 {
		if event := r.Step(); event != need("x") {
			t.Errorf("Step: %v", event)
		}
		wantStanding(t, r, 4, nil, "x")
	}
	if e := r.Give("X"); e != api.OK {
		t.Errorf("Give: %v", e)
	}
	for _, s := range []string{"Y", times(257, "a")} {
		if e := r.Give(s); e != api.ErrNone {
			t.Errorf("Give of what was given: %v", e)
		}
		if e := r.Lack(); e != api.ErrNone {
			t.Errorf("Lack of what was given: %v", e)
		}
		wantStanding(t, r, 4, nil, "x")
	}
	for range 3 {
		if event := r.Step(); event != need("y") {
			t.Errorf("Step: %v", event)
		}
		wantStanding(t, r, 4+1+1+3+1, nil, "x", "y")
	}
	if e := r.Give(""); e != api.OK {
		t.Errorf("Give: %v", e)
	}
	wantStanding(t, r, 10, nil, "x", "y")
	wantStill(t, r, asking(done(13, "b\nX", "a\nX"), "x", "y"))
}

// P14.2: a run that was told that there is none, or too much, tells it with the next step.
func TestToldWrongly(t *testing.T) {
	for _, line := range []string{"cat x", "need x", "each x / fail / end"} {
		for _, n := range []int{-1, 257, 5000} {
			r := newRun(t, read("write t / "+line), 99, "t")
			if event := r.Step(); event != need("x") {
				t.Errorf("Step: %v", event)
			}
			why, e := api.ErrSize, api.OK
			if n < 0 {
				why, e = api.ErrLack, r.Lack()
			} else {
				e = r.Give(times(n, "a"))
			}
			if e != api.OK {
				t.Errorf("told: %v", e)
			}
			for range 2 {
				if e := r.Give("a"); e != api.ErrNone {
					t.Errorf("Give of what was told: %v", e)
				}
				if e := r.Lack(); e != api.ErrNone {
					t.Errorf("Lack of what was told: %v", e)
				}
				wantStanding(t, r, 2, nil, "x")
			}
			wantStill(t, r, asking(failed(2, why, "x"), "x"))
		}
	}
}

// P14.2, P14.3: runs that are done, and that failed in each way.
func TestEnded(t *testing.T) {
	for code, want := range map[string]api.Ran{
		"write t":                             done(1, ""),
		"text a / write t":                    done(4, "a\n"),
		"write t / fail a":                    failed(2, api.ErrFail, "a"),
		"write t / need ..":                   failed(2, api.ErrPath, ".."),
		"text a / write u":                    failed(4, api.ErrOutput, "u"),
		"text a":                              failed(3, api.ErrOutput, "t"),
		"write t / repeat 1000 / end":         failed(100, api.ErrFuel, ""),
		"write t / repeat 60 / text ab / end": failed(100, api.ErrFuel, ""),
	} {
		wantStill(t, newRun(t, read(code), 100, "t"), want)
	}
	wantStill(t, newRun(t, read("write t"), 0, "t"), failed(0, api.ErrFuel, ""))
	wantStill(t, newRun(t, nil, 0, "t"), failed(0, api.ErrOutput, "t"))
	wantStill(t, newRun(t, list(text(times(300, "a"))), 100, "t"), failed(1, api.ErrSize, ""))
}

// Fuel that ends where a run was told: what a cat must pay for is not paid when it asks.
func TestFuelBehindQuestion(t *testing.T) {
	r := newRun(t, read("cat x / write t"), 3, "t")
	if event := r.Step(); event != need("x") {
		t.Errorf("Step: %v", event)
	}
	more := r.Copy()
	wantStanding(t, r, 1, nil, "x")
	r.Give("abc")
	wantStanding(t, r, 1, nil, "x")
	wantStill(t, r, asking(failed(3, api.ErrFuel, ""), "x"))
	more.Give("a")
	wantStill(t, more, asking(done(3, "a"), "x"))
	last := newRun(t, read("need x"), 1, "t")
	if last.Step() != need("x") || last.Give("") != api.OK {
		t.Errorf("Step: %v", last.Step())
	}
	wantStill(t, last, asking(failed(1, api.ErrOutput, "t"), "x"))
}

// P14.4: copies made ahead of the first step, at a question, behind it, behind the end; each goes on by itself, in any order.
func TestCopies(t *testing.T) {
	code := read("each l / cat @ / end / upper / text - / write t / each l / text @ / end / sort / write u")
	first := newRun(t, code, 200, "t", "u")
	ahead := first.Copy()
	if first.Step() != need("l") {
		t.Fatal(first.Step())
	}
	atL := first.Copy()
	wantStanding(t, ahead, 0, nil)
	first.Give("b\na")
	told := first.Copy()
	if first.Step() != need("b") {
		t.Fatal(first.Step())
	}
	atB := first.Copy()
	wantStanding(t, atL, 1, nil, "l")
	wantStanding(t, told, 1, nil, "l")
	wantStanding(t, atB, 3, nil, "l", "b")
	if got := stepped(t, first, answers{"a": "1", "b": "22"}); !sameRan(got, asking(done(24, "221-\n", "a\nb\n"), "l", "b", "a")) {
		t.Errorf("the first: %v", got)
	}
	if atL.Step() != need("l") || atL.Lack() != api.OK {
		t.Errorf("at l: %v", atL.Step())
	}
	wantStill(t, atL, asking(failed(1, api.ErrLack, "l"), "l"))
	again := atB.Copy()
	if atB.Give("3") != api.OK || again.Give(times(256, "b")) != api.OK {
		t.Error("Give of the copies at b")
	}
	if got := stepped(t, atB, answers{"a": ""}); !sameRan(got, asking(done(22, "3-\n", "a\nb\n"), "l", "b", "a")) {
		t.Errorf("the copy at b: %v", got)
	}
	if got := stepped(t, again, answers{"a": "x"}); !sameRan(got, asking(failed(200, api.ErrFuel, ""), "l", "b")) {
		t.Errorf("the copy of the copy at b: %v", got)
	}
	if got := stepped(t, told, answers{"a": "A", "b": ""}); !sameRan(got, asking(done(22, "A-\n", "a\nb\n"), "l", "b", "a")) {
		t.Errorf("the copy that was told: %v", got)
	}
	if got := stepped(t, ahead, answers{"l": "x/y", "x/y": "z"}); !sameRan(got, asking(done(18, "Z-\n", "x/y\n"), "l", "x/y")) {
		t.Errorf("the copy ahead of all: %v", got)
	}
	wantStill(t, first, asking(done(24, "221-\n", "a\nb\n"), "l", "b", "a"))
}

// P14.4: two that stand in the same bodies do not share the bodies' places, nor what was told, nor what was written.
func TestCopiesInBodies(t *testing.T) {
	code := read("repeat 2 / repeat 2 / each l / cat @ / end / cat x / end / end / write t")
	r := newRun(t, code, 999, "t")
	r.Step()
	r.Give("a\nb")
	r.Step()
	runs := []*interp.Run{r, r.Copy(), r.Copy()}
	for i, r := range runs {
		for r.Step().Kind == api.RunNeed {
			if e := r.Give(fmt.Sprint(r.Step().Path, i)); e != api.OK {
				t.Error(e)
			}
		}
	}
	for i, r := range runs {
		want := times(4, fmt.Sprintf("a%db%dx%d", i, i, i))
		wantStill(t, r, asking(done(1+2+2+4+4+8+8+16+4+8+1, want), "l", "a", "b", "x"))
	}
}

// P14.6: copies gone on with by several goroutines at one time.
func TestCopiesAtOneTime(t *testing.T) {
	code := read("each l / repeat 3 / cat @ / cat @ / end / end / sort / write t / each l / text @ / end / write u")
	r := newRun(t, code, 9999, "t", "u")
	r.Step()
	r.Give("a\nb\nc")
	r.Step()
	var all sync.WaitGroup
	got := make([]api.Ran, 16)
	for i := range got {
		c := r.Copy()
		all.Go(func() { got[i] = stepped(t, c, answers{"a": "1\n", "b": fmt.Sprint(i, "\n"), "c": ""}) })
	}
	all.Wait()
	for i, ran := range got {
		want, e := interp.Do(code, []string{"t", "u"}, 9999, answers{"l": "a\nb\nc", "a": "1\n", "b": fmt.Sprint(i, "\n"), "c": ""}.ask)
		if e != api.OK || !sameRan(ran, want) {
			t.Errorf("%d: %v, want %v, %v", i, ran, want, e)
		}
	}
}

// withRoom is a list with some room behind each list's end, in which something stands.
func withRoom(l []api.Stmt) []api.Stmt {
	var out []api.Stmt
	for _, s := range l {
		s.Args = append(slices.Clone(s.Args), "behind")[:len(s.Args)]
		s.Body = withRoom(s.Body)
		out = append(out, s)
	}
	return append(out, stmt(api.OpFail, "behind"))[:len(l)]
}

// scribble writes over all of a list, the room behind the ends too.
func scribble(l []api.Stmt) {
	for _, s := range l {
		scribble(s.Body)
		for i := range s.Args[:cap(s.Args)] {
			s.Args[:cap(s.Args)][i] = "scribbled"
		}
	}
	for i := range l[:cap(l)] {
		l[:cap(l)][i] = stmt(api.OpFail, "scribbled")
	}
}

func wholeRoom(l []api.Stmt) string {
	var b strings.Builder
	for _, s := range l[:cap(l)] {
		fmt.Fprintf(&b, "(%d %q %d %s)", s.Op, s.Args[:cap(s.Args)], s.N, wholeRoom(s.Body))
	}
	return b.String()
}

const manyThings = "text a b c / cat x / repeat 2 / each l / text @ d / when @ e / need @ / end / end / end / sort / uniq / write t / text / write u"

// R3: what was handed in is neither changed nor kept.
func TestHandedInIsNotKept(t *testing.T) {
	a := answers{"x": "y\n", "l": "e\nf", "e": "g"}
	want, e := interp.Do(read(manyThings), []string{"u", "t"}, 999, a.ask)
	if e != api.OK || want.Event.Kind != api.RunDone {
		t.Fatal(want, e)
	}
	for stop := range 5 {
		code := withRoom(read(manyThings))
		targets := []string{"u", "t", "behind"}[:2]
		was := wholeRoom(code)
		r := newRun(t, code, 999, targets...)
		again, _ := interp.New(code, targets, 999)
		ran, _ := interp.Do(code, targets, 999, a.ask)
		if !sameRan(ran, want) || wholeRoom(code) != was || !slices.Equal(targets[:3], []string{"u", "t", "behind"}) {
			t.Errorf("Do: %v, want %v; what was handed in is %s, %q", ran, want, wholeRoom(code), targets[:3])
		}
		for range stop {
			if r.Give(a[r.Step().Path]); wholeRoom(code) != was {
				t.Errorf("what was handed in is %s", wholeRoom(code))
			}
		}
		c := r.Copy()
		scribble(code)
		clear(targets[:3])
		for _, r := range []*interp.Run{r, c, again} {
			if got := stepped(t, r, a); !sameRan(got, want) {
				t.Errorf("written over behind %d questions: %v, want %v", stop, got, want)
			}
		}
	}
}

// R3: what was handed in is not kept while Do asks, either.
func TestHandedInIsNotAskedAgain(t *testing.T) {
	a := answers{"x": "y\n", "l": "e\nf", "e": "g"}
	want, _ := interp.Do(read(manyThings), []string{"u", "t"}, 999, a.ask)
	code, targets := withRoom(read(manyThings)), []string{"u", "t"}
	ran, e := interp.Do(code, targets, 999, func(p string) (string, bool) {
		scribble(code)
		clear(targets)
		return a.ask(p)
	})
	if e != api.OK || !sameRan(ran, want) {
		t.Errorf("%v, %v, want %v", ran, e, want)
	}
}

func scribbleTexts(l []string) {
	l = l[:cap(l)]
	for i := range l {
		l[i] = "scribbled"
	}
}

// R3: what was answered, written over, changes no later answer, of the run or of a copy.
func TestAnsweredIsNew(t *testing.T) {
	a := answers{"x": "y\n", "l": "e\nf", "e": "g"}
	want, _ := interp.Do(read(manyThings), []string{"u", "t"}, 999, a.ask)
	r := newRun(t, read(manyThings), 999, "u", "t")
	runs := []*interp.Run{r}
	for r.Step().Kind == api.RunNeed {
		runs = append(runs, r.Copy())
		for _, r := range runs {
			scribbleTexts(r.Needs())
			scribbleTexts(append(r.Needs(), "more"))
			scribbleTexts(r.Outputs())
		}
		r.Give(a[r.Step().Path])
	}
	for _, r := range runs {
		if got := stepped(t, r, a); !sameRan(got, want) {
			t.Errorf("%v, want %v", got, want)
		}
		scribbleTexts(r.Needs())
		scribbleTexts(r.Outputs())
	}
	for _, r := range runs {
		wantStill(t, r, want)
	}
	ran, _ := interp.Do(read(manyThings), []string{"u", "t"}, 999, a.ask)
	scribbleTexts(ran.Needs)
	if !slices.Equal(ran.Outputs, want.Outputs) {
		t.Errorf("the outputs are %q, once the needs are written over", ran.Outputs)
	}
}
