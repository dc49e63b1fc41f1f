package elab_test

import (
	"fmt"
	"reflect"
	"slices"
	"strings"
	"sync"
	"testing"

	"brickyard/action"
	"brickyard/api"
	"brickyard/elab"
)

func times(n int, s string) string { return strings.Repeat(s, n) }

// files are the texts of files; r is the root's.
type files map[string]string

func (f files) read(p string) (string, bool) {
	s, is := f[p]
	return s, is
}

// root is a root's file alone.
func root(text string) files { return files{"r": text} }

func wantPlan(t *testing.T, f files) *elab.Plan {
	t.Helper()
	p, where := elab.New(f.read, "r")
	if p == nil || where != (api.Where{}) {
		t.Fatalf("New of %.300q: %v", f, where)
	}
	return p
}

func wantWrong(t *testing.T, f files, err api.Errno, file string, line, col int) {
	t.Helper()
	want := api.Where{Err: err, Path: file, Line: line, Col: col}
	if p, where := elab.New(f.read, "r"); p != nil || where != want {
		t.Errorf("New of %.300q: %v, want %v", f, where, want)
	}
}

// stmts is an action's statements, " / " standing between two lines.
func stmts(s string) []api.Stmt {
	var lines [][]string
	for _, line := range strings.Split(s, " / ") {
		if s != "" {
			lines = append(lines, strings.Fields(line))
		}
	}
	l, spot := action.Parse(lines)
	if spot != (api.Spot{}) {
		panic(fmt.Sprint(s, spot))
	}
	return l
}

// job is written as "targets : deps", its code as stmts has it; of two more texts the second one stands for the first.
func job(rule, code string, turned ...string) api.Job {
	turn := strings.NewReplacer(turned...)
	rule, code = turn.Replace(rule), turn.Replace(code)
	targets, deps, _ := strings.Cut(rule, ":")
	j := api.Job{Targets: strings.Fields(targets), Deps: strings.Fields(deps), Code: stmts(code)}
	j.Key = j.Targets[0]
	return j
}

func sameJob(a, b api.Job) bool {
	return a.Key == b.Key && slices.Equal(a.Targets, b.Targets) && slices.Equal(a.Deps, b.Deps) && action.Same(a.Code, b.Code)
}

func wantJob(t *testing.T, p *elab.Plan, s string, want api.Job) {
	t.Helper()
	if j, is := p.Find(s); !is || !sameJob(j, want) {
		t.Errorf("Find(%q): %+v, %v, want %+v", s, j, is, want)
	}
	if !p.Is(s) {
		t.Errorf("Is(%q): false", s)
	}
}

func wantNone(t *testing.T, p *elab.Plan, paths ...string) {
	t.Helper()
	for _, s := range paths {
		if j, is := p.Find(s); is || !reflect.DeepEqual(j, api.Job{}) {
			t.Errorf("Find(%q): %+v, %v", s, j, is)
		}
		if p.Is(s) {
			t.Errorf("Is(%q): true", s)
		}
	}
}

// wantJobs: these are the jobs that Jobs goes over, whenever it does.
func wantJobs(t *testing.T, p *elab.Plan, want ...api.Job) {
	t.Helper()
	if p.Len() != len(want) {
		t.Errorf("Len: %d, want %d", p.Len(), len(want))
	}
	over := p.Jobs()
	for range 2 {
		if got := slices.Collect(over); !slices.EqualFunc(got, want, sameJob) {
			t.Errorf("Jobs: %+v, want %+v", got, want)
		}
	}
}

// The chapter's examples.
func TestExamples(t *testing.T) {
	p := wantPlan(t, root("let S = a.c b.c\nrule p : $(S)\n\tcat a.c\n\twrite p"))
	wantJob(t, p, "p", job("p : a.c b.c", "cat a.c / write p"))
	j, _ := p.Find("p")
	if s := elab.JobText(j); s != "rule p : a.c b.c\n\tcat a.c\n\twrite p\n" {
		t.Errorf("JobText: %q", s)
	}

	p = wantPlan(t, root("rule %.o : %.c h\n\tcat %.c\n\twrite %.o"))
	wantJob(t, p, "x/y.o", job("x/y.o : x/y.c h", "cat x/y.c / write x/y.o"))
	wantNone(t, p, ".o", "A.o")
	wantJobs(t, p)

	p = wantPlan(t, files{"r": "include lib/x\nrule a :", "lib/x": "let Q = 1"})
	if f := p.Files(); !slices.Equal(f, []string{"r", "lib/x"}) {
		t.Errorf("Files: %q", f)
	}
	wantJobs(t, p, job("a", ""))

	for _, x := range []struct {
		text      string
		err       api.Errno
		line, col int
	}{
		{"include r", api.ErrLoop, 1, 8},
		{"rule a : $(X)", api.ErrValue, 1, 9},
		{"rule a : $x", api.ErrValue, 1, 9},
		{"rule a : \"$(\"", api.ErrValue, 1, 9},
		{"rule a b :\nrule b :", api.ErrTwice, 2, 5},
		{"rule a : ../x", api.ErrArg, 1, 9},
		{"rule ../x :", api.ErrArg, 1, 5},
		{"rule %.o %.d :", api.ErrStem, 1, 9},
		{"rule %% :", api.ErrStem, 1, 5},
		{"rule A% :", api.ErrArg, 1, 5},
		{"rule a :\n\tfly", api.ErrStmt, 2, 1},
		{"rule a b c d e :", api.ErrJob, 1, 13},
		{"let E =\nrule $(E) :", api.ErrJob, 2, 5},
	} {
		wantWrong(t, root(x.text), x.err, "r", x.line, x.col)
	}
}

// P15.1: no function, a root that is no path, a root without a file; in this order.
func TestRoot(t *testing.T) {
	long := times(31, "a/") + "a"
	for _, s := range []string{"", "r", "A", long} {
		if p, where := elab.New(nil, s); p != nil || where != (api.Where{Err: api.ErrNil}) {
			t.Errorf("New(nil, %q): %v", s, where)
		}
	}
	for _, s := range []string{"", ".", "..", "A", "a//b", "./r", "/r", "r/", "a b", "%", "$(X)", long, "\xff"} {
		everything := func(p string) (string, bool) { t.Errorf("asked for %q", p); return "", true }
		if p, where := elab.New(everything, s); p != nil || where != (api.Where{Err: api.ErrArg, Path: s}) {
			t.Errorf("New(.., %q): %v", s, where)
		}
	}
	for _, s := range []string{"r", "a/b/c", times(29, "a/") + "aa"} {
		asked := 0
		lost := func(p string) (string, bool) { asked++; return "rule a :", false }
		if p, where := elab.New(lost, s); p != nil || where != (api.Where{Err: api.ErrNone, Path: s}) || asked != 1 {
			t.Errorf("New(.., %q): %v, asked %d times", s, where, asked)
		}
		p, where := elab.New(files{s: "rule a :"}.read, s)
		if where != (api.Where{}) || !slices.Equal(p.Files(), []string{s}) {
			t.Errorf("New(.., %q): %v", s, where)
		}
	}
}

// P15.1: a file that goes wrong by each error of rules.Parse, in the root and in an included file.
func TestFilesThatGoWrong(t *testing.T) {
	for _, x := range []struct {
		text      string
		err       api.Errno
		line, col int
	}{
		{"rule a :\n\ta\tb", api.ErrText, 2, 2},
		{"let A = \"a", api.ErrText, 1, 8},
		{"let A = a\n\nrule", api.ErrItem, 3, 0},
		{"\tcat a", api.ErrItem, 1, 1},
		{"let x = 1", api.ErrVar, 1, 4},
	} {
		wantWrong(t, root(x.text), x.err, "r", x.line, x.col)
		wantWrong(t, files{"r": "let A =\ninclude lib/x", "lib/x": x.text}, x.err, "lib/x", x.line, x.col)
		wantWrong(t, files{"r": "include y", "y": "include lib/x", "lib/x": x.text}, x.err, "lib/x", x.line, x.col)
		wantWrong(t, root("let A = $a\n"+x.text), x.err, "r", x.line+1, x.col) // a file is read whole, ahead of what its items say
		wantWrong(t, files{"r": "rule $a :\ninclude x", "x": x.text}, api.ErrValue, "r", 1, 5)
		wantWrong(t, files{"r": "include x\n\n" + x.text, "x": "rule $a :"}, x.err, "r", x.line+2, x.col)
	}
	whole := times(100, "let A = a\n") + times(api.MaxText-1000, "#")
	wantPlan(t, root(whole))
	wantPlan(t, files{"r": "include x", "x": whole})
	wantWrong(t, root(whole+"#"), api.ErrLong, "r", 101, api.MaxText-1000)
	wantWrong(t, files{"r": "include x", "x": whole + "#"}, api.ErrLong, "x", 101, api.MaxText-1000)
}

// P15.3: rising by bytes, left early, gone over twice, within itself.
func TestJobs(t *testing.T) {
	p := wantPlan(t, root("rule b a :\nrule b.c :\nrule %.o :\nrule a/b : c\nrule b-c : b\nrule c b/c :\nrule _ :\nrule 0 :"))
	want := []api.Job{job("0", ""), job("_", ""), job("a/b : c", ""), job("b a", ""), job("b-c : b", ""), job("b.c", ""), job("c b/c", "")}
	wantJobs(t, p, want...)
	for n := range len(want) + 1 {
		var got []api.Job
		for j := range p.Jobs() {
			if len(got) == n {
				break
			}
			got = append(got, j)
		}
		if !slices.EqualFunc(got, want[:n], sameJob) {
			t.Errorf("left behind %d: %+v", n, got)
		}
	}
	n := 0
	for range p.Jobs() {
		for range p.Jobs() {
			n++
		}
	}
	if n != len(want)*len(want) {
		t.Errorf("gone over %d times", n)
	}
	wantJobs(t, wantPlan(t, root("")))
	wantJobs(t, wantPlan(t, root("rule %.o :\nrule %.c :\nlet A = rule a")))
}

// P15.1 to P15.3: a nil plan and a zero one.
func TestNilPlan(t *testing.T) {
	for _, p := range []*elab.Plan{nil, {}} {
		wantNone(t, p, "", "a", "a/b", "..", "%", "A")
		wantJobs(t, p)
		if f := p.Files(); len(f) != 0 {
			t.Errorf("Files: %q", f)
		}
	}
}

// P15.2: texts that are no paths, though Norm told one of them, or a pattern fits them.
func TestFindOfWhatIsNoPath(t *testing.T) {
	p := wantPlan(t, root("rule a/b :\nrule x/% : y\nrule % :"))
	wantJob(t, p, "a/b", job("a/b", ""))
	wantJob(t, p, "x/z", job("x/z : y", ""))
	wantJob(t, p, "x", job("x", ""))
	wantNone(t, p, "", "a//b", "./a/b", "a/b/", "/a/b", "a/./b", "c/../a/b", "x/", "x/..", "x//z", "x/Z", "%", "x/%", "x y", "\xff", "a\n", times(33, "a"), times(30, "x/")+"x")
	wantJob(t, p, times(29, "x/")+"xx", job(times(29, "x/")+"xx : y", ""))
}

// scribble writes over all that is in a job, and over the room behind its lists.
func scribble(j api.Job) {
	for _, l := range [][]string{j.Targets, j.Deps} {
		for i := range l[:cap(l)] {
			l[:cap(l)][i] = "over"
		}
	}
	scribbleCode(j.Code)
}

func scribbleCode(l []api.Stmt) {
	for i, s := range l {
		scribbleCode(s.Body)
		for k := range s.Args[:cap(s.Args)] {
			s.Args[:cap(s.Args)][k] = "over"
		}
		l[i] = api.Stmt{Op: api.OpFail}
	}
	clear(l[len(l):cap(l)])
}

// R3: what was answered is written over.
func TestAnswersAreNew(t *testing.T) {
	f := files{"r": "let V = x y\ninclude l\nrule a b : c $(V) d\n\trepeat 2\n\teach c\n\ttext $(V) @\n\tend\n\tend\n\twrite a\nrule %.o : %.c $(V)\n\twhen % %\n\ttext %\n\tend", "l": ""}
	p := wantPlan(t, f)
	clear(f)
	a := job("a b : c x y d", "repeat 2 / each c / text x y @ / end / end / write a")
	o := job("z.o : z.c x y", "when z z / text z / end")
	for range 3 {
		for _, s := range []string{"a", "b"} {
			wantJob(t, p, s, a)
			j, _ := p.Find(s)
			scribble(j)
		}
		wantJob(t, p, "z.o", o)
		j, _ := p.Find("z.o")
		scribble(j)
		wantJobs(t, p, a)
		for j := range p.Jobs() {
			scribble(j)
		}
		l := p.Files()
		if !slices.Equal(l, []string{"r", "l"}) {
			t.Fatalf("Files: %q", l)
		}
		for i := range l[:cap(l)] {
			l[:cap(l)][i] = "over"
		}
	}
	l := append(p.Files(), "more")
	if m := append(p.Files(), "else"); l[2] != "more" || m[2] != "else" {
		t.Error("two answers share their room")
	}
}

// R5: a plan never changes; two of one text are alike, and know nothing of each other.
func TestPlansStandAlone(t *testing.T) {
	p := wantPlan(t, root("let A = a\nrule $(A) : b\nrule %.o : $(A)"))
	q := wantPlan(t, root("let B = b\nrule $(B) : a\nrule %.d :"))
	wantWrong(t, root("rule a : $(A)"), api.ErrValue, "r", 1, 9)
	for range 2 {
		wantJobs(t, p, job("a : b", ""))
		wantJobs(t, q, job("b : a", ""))
		wantNone(t, p, "b", "x.d")
		wantNone(t, q, "a", "x.o")
		wantJob(t, p, "x.o", job("x.o : a", ""))
		wantJob(t, q, "x.d", job("x.d", ""))
	}
}

// R5: several goroutines ask one plan at one time.
func TestPlanIsAskedByMany(t *testing.T) {
	p := wantPlan(t, files{"r": "include l\nrule a b : c\n\tcat c\n\twrite a\n\twrite b", "l": "rule %.o : %.c\n\tcat %.c\n\twrite %.o"})
	var group sync.WaitGroup
	for g := range 8 {
		group.Go(func() {
			for i := range 100 {
				s := fmt.Sprintf("x%d-%d", g, i)
				wantJob(t, p, s+".o", job(s+".o : "+s+".c", "cat "+s+".c / write "+s+".o"))
				wantJob(t, p, "b", job("a b : c", "cat c / write a / write b"))
				wantJobs(t, p, job("a b : c", "cat c / write a / write b"))
				if len(p.Files()) != 2 {
					t.Error("Files")
				}
			}
		})
	}
	group.Wait()
}
