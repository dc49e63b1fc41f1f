package interp_test

import (
	"fmt"
	"math/rand"
	"slices"
	"strings"
	"testing"

	"brickyard/action"
	"brickyard/api"
	"brickyard/interp"
	"brickyard/path"
)

// words does an action as the chapter's words say it: by itself in bodies, unit by unit, and it is never stopped.
type words struct {
	left, used int
	buffer     string
	targets    []string
	written    map[string]string
	needs      []string
	answers    answers
}

func ranByWords(code []api.Stmt, targets []string, fuel int, a answers) (ran api.Ran) {
	w := words{left: fuel, targets: targets, written: map[string]string{}, answers: a}
	defer func() {
		if event, is := recover().(api.RunEvent); is {
			ran = api.Ran{Event: event, Needs: w.needs, Used: w.used}
		}
	}()
	w.all(code, "")
	ran = api.Ran{Event: api.RunEvent{Kind: api.RunDone}, Needs: w.needs, Used: w.used}
	for _, p := range targets {
		s, is := w.written[p]
		if !is {
			w.fail(api.ErrOutput, p)
		}
		ran.Outputs = append(ran.Outputs, s)
	}
	return ran
}

func (w *words) fail(why api.Errno, text string) {
	panic(api.RunEvent{Kind: api.RunFailed, Why: why, Text: text})
}

func (w *words) cost(n int) {
	for range n {
		if w.left == 0 {
			w.fail(api.ErrFuel, "")
		}
		w.left--
		w.used++
	}
}

func (w *words) put(s string) {
	if len(w.buffer+s) > 256 {
		w.fail(api.ErrSize, "")
	}
	w.cost(len(s))
	w.buffer += s
}

func (w *words) path(s string) string {
	p, e := path.Norm(s)
	if e != api.OK {
		w.fail(api.ErrPath, s)
	}
	return p
}

func (w *words) ask(s string) string {
	p := w.path(s)
	c, is := w.answers[p]
	if slices.Contains(w.needs, p) {
		return c
	}
	if len(w.needs) == 8 {
		w.fail(api.ErrNeeds, p)
	}
	w.needs = append(w.needs, p)
	if !is {
		w.fail(api.ErrLack, p)
	}
	if len(c) > 256 {
		w.fail(api.ErrSize, p)
	}
	return c
}

func cutLines(s string) []string {
	var out []string
	for s != "" {
		line, rest, _ := strings.Cut(s, "\n")
		out = append(out, line)
		s = rest
	}
	return out
}

// toldByWords goes byte by byte.
func toldByWords(word, line string) string {
	out := ""
	for i := range len(word) {
		if word[i] == '@' {
			out += line
		} else {
			out += word[i : i+1]
		}
	}
	return out
}

func (w *words) all(l []api.Stmt, line string) {
	for _, s := range l {
		w.cost(1)
		var args []string
		for _, word := range s.Args {
			args = append(args, toldByWords(word, line))
		}
		w.one(s, args, line)
	}
}

func (w *words) one(s api.Stmt, args []string, line string) {
	switch s.Op {
	case 1:
		w.ask(args[0])
	case 2:
		w.put(w.ask(args[0]))
	case 3:
		w.put(strings.Join(args, " ") + "\n")
	case 4:
		for c := 'a'; c <= 'z'; c++ {
			w.buffer = strings.ReplaceAll(w.buffer, string(c), string(c-32))
		}
	case 5, 6, 7:
		w.change(s.Op)
	case 8:
		p := w.path(args[0])
		if _, is := w.written[p]; is || !slices.Contains(w.targets, p) {
			w.fail(api.ErrOutput, p)
		}
		w.written[p], w.buffer = w.buffer, ""
	case 9:
		w.fail(api.ErrFail, strings.Join(args, " "))
	case 10:
		for range s.N {
			w.cost(1)
			w.all(s.Body, line)
		}
	case 11:
		for _, line := range cutLines(w.ask(args[0])) {
			w.cost(1)
			w.all(s.Body, line)
		}
	case 12:
		if args[0] == args[1] {
			w.all(s.Body, line)
		}
	}
}

func (w *words) change(op int) {
	var lines []string
	for _, line := range cutLines(w.buffer) {
		switch {
		case op == 5:
			i := 0
			for i < len(lines) && lines[i] <= line {
				i++
			}
			lines = slices.Insert(lines, i, line)
		case op == 7 || len(lines) == 0 || lines[len(lines)-1] != line:
			lines = append(lines, line)
		}
	}
	if op == 7 {
		lines = []string{fmt.Sprint(len(lines))}
	}
	s := ""
	for _, line := range lines {
		s += line + "\n"
	}
	if len(s) > 256 {
		w.fail(api.ErrSize, "")
	}
	w.buffer = s
}

func pick[T any](r *rand.Rand, list ...T) T { return list[r.Intn(len(list))] }

// wild makes actions at random: with lists of so many statements at most, for these targets, and, if it is tame, with words alone that are paths.
type wild struct {
	r       *rand.Rand
	most    int
	targets []string
	tame    bool
}

var somePaths = []string{"a", "b", "c", "d", "e/f", "g", "h.c", "i", "j", "k", "t", "u"}

// pathWord is one that comes to a path, most times, in any spelling.
func (w wild) pathWord(inEach bool) string {
	r := w.r
	p := pick(r, somePaths...)
	if w.tame {
		return pick(r, p, p, "./"+p, "x/../"+p)
	}
	if inEach && r.Intn(2) == 0 {
		return pick(r, "@", "@", "@", "./@", "x/../@", "@.c", "@@")
	}
	switch r.Intn(24) {
	case 0:
		return "./" + p
	case 1:
		return "x/../" + p + "//"
	case 2:
		return pick(r, "", "@", "..", "A", "a b", "../a", "\xff", times(70, "a"))
	case 3:
		return "@" + p
	}
	return p
}

func randomWord(r *rand.Rand, inEach bool) string {
	if inEach && r.Intn(2) == 0 {
		return pick(r, "@", "@x", "@@", "x@")
	}
	return pick(r, "a", "b", "a", "ab", "", "x y", "@", "\x00", "\xffz", "a\nb", times(20, "ab"))
}

func randomWords(r *rand.Rand, n int, inEach bool) []string {
	var out []string
	for range n {
		out = append(out, randomWord(r, inEach))
	}
	return out
}

func (w wild) list(nest int, inEach bool) []api.Stmt {
	var out []api.Stmt
	for range w.r.Intn(w.most + 1) {
		out = append(out, w.stmt(nest, inEach))
	}
	return out
}

func (w wild) stmt(nest int, inEach bool) api.Stmt {
	r := w.r
	op := pick(r, 1, 2, 2, 2, 3, 3, 3, 4, 5, 6, 7, 8, 10, 11, 11, 12)
	if w.tame && r.Intn(2) == 0 {
		op = api.OpNeed
	}
	if r.Intn(150) == 0 {
		op = api.OpFail
	}
	if nest == 0 && op > api.OpFail {
		op = api.OpText
	}
	switch op {
	case api.OpNeed, api.OpCat:
		return stmt(op, w.pathWord(inEach))
	case api.OpWrite:
		if r.Intn(4) > 0 {
			return text()
		}
		return stmt(op, pick(r, pick(r, w.targets...), w.pathWord(inEach)))
	case api.OpText, api.OpFail:
		return stmt(op, randomWords(r, r.Intn(3), inEach)...)
	case api.OpRepeat:
		return repeat(pick(r, 0, 1, 2, 3, 10), w.list(nest-1, inEach)...)
	case api.OpEach:
		return each(w.pathWord(inEach), w.list(nest-1, true)...)
	case api.OpWhen:
		return when(randomWord(r, inEach), randomWord(r, inEach), w.list(nest-1, inEach)...)
	}
	return stmt(op)
}

// action is one that may be; most times it writes its targets at its end.
func (w wild) action() []api.Stmt {
	for {
		code := w.list(w.r.Intn(5), false)
		for _, p := range w.targets {
			if w.r.Intn(10) > 0 {
				code = append(code, stmt(api.OpWrite, p))
			}
		}
		if action.May(code) {
			return code
		}
	}
}

func randomContent(r *rand.Rand) string {
	switch r.Intn(12) {
	case 0:
		return times(pick(r, 1, 250, 255, 256, 257), pick(r, "a", "\n", "\xff"))
	case 1:
		return ""
	}
	var lines []string
	for range 1 + r.Intn(4) {
		lines = append(lines, pick(r, pick(r, somePaths...), pick(r, somePaths...), pick(r, "", "a", "\x00b", "Z", "@")))
	}
	return strings.Join(lines, "\n") + pick(r, "", "\n")
}

func randomAnswers(r *rand.Rand, lacking int) answers {
	a := answers{}
	for _, p := range slices.Concat(somePaths, []string{"ac", "aa", "a.c", "b.c", "aab"}) {
		if r.Intn(lacking) > 0 {
			a[p] = randomContent(r)
		}
	}
	return a
}

// wantAsWords: an action by Do, and by the words.
func wantAsWords(t *testing.T, code []api.Stmt, targets []string, fuel int, a answers) api.Ran {
	t.Helper()
	want := ranByWords(code, targets, fuel, a)
	asked := []string{}
	got, e := interp.Do(code, targets, fuel, func(p string) (string, bool) {
		asked = append(asked, p)
		return a.ask(p)
	})
	if e != api.OK || !sameRan(got, want) || !slices.Equal(asked, got.Needs) {
		lines, _ := action.Print(code)
		t.Fatalf("%s\n%q, %d, %q: %s, asks %q, want %s", lines, targets, fuel, a, shown(got), asked, shown(want))
	}
	return got
}

// P14.6: a run that is stopped and copied at random; all copies come to the same, whichever goes on when.
func wantByCopies(t *testing.T, r *rand.Rand, first *interp.Run, a answers, want api.Ran) {
	t.Helper()
	runs := []*interp.Run{first}
	if r.Intn(2) == 0 {
		runs = append(runs, first.Copy())
	}
	var ended []*interp.Run
	for len(runs) > 0 {
		at := r.Intn(len(runs))
		run := runs[at]
		event := run.Step()
		if len(runs)+len(ended) < 6 && r.Intn(2) == 0 {
			runs = append(runs, run.Copy())
		}
		if event.Kind != api.RunNeed {
			ended = append(ended, run)
			runs = slices.Delete(runs, at, at+1)
			continue
		}
		if needs := run.Needs(); len(needs) > len(want.Needs) || !slices.Equal(needs, want.Needs[:len(needs)]) || needs[len(needs)-1] != event.Path || run.Used() > want.Used || len(run.Outputs()) != 0 {
			t.Fatalf("stopped at %v with Needs %q, Used %d, Outputs %q, want %s", event, needs, run.Used(), run.Outputs(), shown(want))
		}
		if s, is := a[event.Path]; is {
			run.Give(s)
		} else {
			run.Lack()
		}
	}
	for _, run := range ended {
		if got := standing(run, run.Step()); !sameRan(got, want) {
			t.Fatalf("stopped and copied: %s, want %s", shown(got), shown(want))
		}
	}
}

// P14.7: answers for other paths may be anything.
func wantOnlyAsked(t *testing.T, code []api.Stmt, targets []string, fuel int, a answers, ran api.Ran) {
	t.Helper()
	other := answers{}
	for p := range a {
		if !slices.Contains(ran.Needs, p) {
			other[p] = "other"
		}
	}
	for _, p := range ran.Needs {
		if s, is := a[p]; is {
			other[p] = s
		}
		if !path.Is(p) {
			t.Fatalf("%q is asked for", p)
		}
	}
	if got, e := interp.Do(code, targets, fuel, other.ask); e != api.OK || !sameRan(got, ran) || len(ran.Needs) > 8 {
		t.Fatalf("%s asked %q, with other answers for others: %s, want %s", shown(code), ran.Needs, shown(got), shown(ran))
	}
}

// wantOtherFuel: P14.8, and the words again.
func wantOtherFuel(t *testing.T, r *rand.Rand, code []api.Stmt, targets []string, fuel int, a answers, ran api.Ran) {
	t.Helper()
	if ran.Used > fuel {
		t.Fatalf("%d of %d is used", ran.Used, fuel)
	}
	if ran.Event.Why == api.ErrFuel {
		if ran.Used != fuel {
			t.Fatalf("%d of %d is used: %s", ran.Used, fuel, shown(ran))
		}
		return
	}
	wantDo(t, code, targets, ran.Used, a, ran)
	wantDo(t, code, targets, ran.Used+r.Intn(api.MaxFuel-ran.Used+1), a, ran)
	if ran.Used == 0 {
		return
	}
	for _, less := range []int{ran.Used - 1, r.Intn(ran.Used)} {
		if got := wantAsWords(t, code, targets, less, a); got.Event != (api.RunEvent{Kind: api.RunFailed, Why: api.ErrFuel}) || got.Used != less {
			t.Fatalf("%s with %d instead of %d: %s", shown(code), less, ran.Used, shown(got))
		}
	}
}

// P14.5, P14.6, P14.7, P14.8: long rows of random actions and answers.
func TestModel(t *testing.T) {
	for seed := range int64(16) {
		t.Run(fmt.Sprint("seed ", seed), func(t *testing.T) {
			t.Parallel()
			r := rand.New(rand.NewSource(seed))
			counts := map[api.Errno]int{}
			for range 5000 {
				targets := pick(r, []string{"t"}, []string{"u", "t"}, []string{"t", "a", "e/f", "u"})
				code := wild{r, pick(r, 3, 6, 10, 16), targets, r.Intn(3) == 0}.action()
				a := randomAnswers(r, pick(r, 3, 20, 1000, 1000))
				fuel := pick(r, r.Intn(30), r.Intn(300), 4096, api.MaxFuel)
				ran := wantAsWords(t, code, targets, fuel, a)
				counts[ran.Event.Why]++
				wantByCopies(t, r, newRun(t, code, fuel, targets...), a, ran)
				wantOnlyAsked(t, code, targets, fuel, a, ran)
				wantOtherFuel(t, r, code, targets, fuel, a, ran)
				if t.Failed() {
					t.FailNow()
				}
			}
			for _, why := range []api.Errno{api.OK, api.ErrFail, api.ErrPath, api.ErrOutput, api.ErrFuel, api.ErrNeeds, api.ErrLack, api.ErrSize} {
				if counts[why] < 10 || why == api.OK && counts[why] < 100 {
					t.Errorf("too little of %v: %v", why, counts)
				}
			}
		})
	}
}

// ways goes with an action by copies: at each question one for each answer. What they come to is held against the words when all have ended, so that none may have changed another one.
type ways struct {
	code    []api.Stmt
	targets []string
	ended   []*interp.Run
	want    []api.Ran
}

func (w *ways) from(r *interp.Run, told answers) {
	event := r.Step()
	if event.Kind != api.RunNeed {
		w.ended = append(w.ended, r)
		w.want = append(w.want, ranByWords(w.code, w.targets, 300, told))
		return
	}
	for _, s := range []string{"a\nb", "c"} {
		c := r.Copy()
		c.Give(s)
		told[event.Path] = s
		w.from(c, told)
	}
	delete(told, event.Path)
	r.Lack()
	w.from(r, told)
}

// P14.4, P14.6: how many ways there were; each copy came to what its own answers come to.
func wantAllWays(t *testing.T, code []api.Stmt, targets ...string) int {
	t.Helper()
	w := ways{code: code, targets: targets}
	w.from(newRun(t, code, 300, targets...), answers{})
	for i, r := range w.ended {
		if got := standing(r, r.Step()); !sameRan(got, w.want[i]) {
			t.Fatalf("way %d of %s: %s, want %s", i, shown(code), shown(got), shown(w.want[i]))
		}
	}
	return len(w.ended)
}

func TestAllWays(t *testing.T) {
	if n := wantAllWays(t, read("each a / cat @ / end / write t / each b / cat @ / end / write u"), "t", "u"); n < 10 {
		t.Errorf("only %d ways", n)
	}
	if n := wantAllWays(t, read("need d / need e / each f / each @ / need @ / end / end / need g / write t"), "t"); n < 100 {
		t.Errorf("only %d ways", n)
	}
	n := 0
	for seed := range int64(300) {
		code := wild{rand.New(rand.NewSource(seed)), 6, []string{"t", "u"}, false}.action()
		n += wantAllWays(t, code, "t", "u")
	}
	if n < 2000 {
		t.Errorf("only %d ways", n)
	}
}

// P14.9: random lines.
func TestRandomLines(t *testing.T) {
	r := rand.New(rand.NewSource(1))
	for range 2000 {
		var lines []string
		var code []api.Stmt
		size := 0
		for range r.Intn(30) {
			line := times(r.Intn(4), pick(r, "a", "b", "\x00", "\xff", "0", " "))
			if size += len(line) + 1; size > 256 {
				break
			}
			lines = append(lines, line)
			code = append(code, text(line))
		}
		all := strings.Join(append(slices.Clone(lines), ""), "\n")
		unlike := slices.Compact(slices.Sorted(slices.Values(lines)))
		rising := strings.Join(append(slices.Clone(unlike), ""), "\n")
		end := read("sort / uniq / write t / each x / text @ / end / write u / cat t / count / write v")
		a := answers{"x": pick(r, all, strings.TrimSuffix(all, "\n")), "t": rising}
		back := a["x"]
		if back != "" && !strings.HasSuffix(back, "\n") {
			back += "\n"
		}
		ran, e := interp.Do(append(code, end...), []string{"t", "u", "v"}, api.MaxFuel, a.ask)
		if e != api.OK || !slices.Equal(ran.Outputs, []string{rising, back, fmt.Sprintln(len(unlike))}) {
			t.Fatalf("%q: %v, %v", lines, ran, e)
		}
	}
}
