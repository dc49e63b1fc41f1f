package elab_test

import (
	"fmt"
	"math/rand"
	"slices"
	"strings"
	"testing"

	"brickyard/action"
	"brickyard/api"
	"brickyard/elab"
	"brickyard/lex"
	"brickyard/rules"
)

func wantText(t *testing.T, j api.Job, want string) {
	t.Helper()
	if s := elab.JobText(j); s != want {
		t.Errorf("JobText(%+v): %q, want %q", j, s, want)
	}
}

// P15.4
func TestJobText(t *testing.T) {
	wantText(t, job("p : a.c b.c", "cat a.c / write p"), "rule p : a.c b.c\n\tcat a.c\n\twrite p\n")
	wantText(t, job("p :", ""), "rule p :\n")
	wantText(t, job("a b c/d : e", ""), "rule a b c/d : e\n")
	wantText(t, job("a : b", "repeat 2 / when a : / end / each x / text y / end / end / fail"), "rule a : b\n\trepeat 2\n\twhen a \":\"\n\tend\n\teach x\n\ttext y\n\tend\n\tend\n\tfail\n")
	j := job("a :", "")
	j.Code = []api.Stmt{{Op: api.OpText, Args: []string{"", "a b", "\n\t\"\\", "#", "\xff", "\r\n"}}, {Op: api.OpNeed, Args: []string{"\n"}}}
	wantText(t, j, "rule a :\n\ttext \"\" \"a b\" \"\\n\\t\\\"\\\\\" \"#\" \"\xff\" \"\r\\n\"\n\tneed \"\\n\"\n")
}

// P15.4: jobs that may not be.
func TestJobTextOfAnyJob(t *testing.T) {
	wantText(t, api.Job{}, "rule :\n")
	wantText(t, api.Job{Key: "k", Deps: []string{"a"}}, "rule : a\n")
	wantText(t, api.Job{Key: "k", Targets: []string{}, Deps: []string{}, Code: []api.Stmt{}}, "rule :\n")
	wantText(t, api.Job{Key: "k", Targets: []string{"a", "a"}, Deps: []string{"b", "b"}}, "rule a a : b b\n")
	wantText(t, api.Job{Targets: []string{"", ":", "A B", "\n"}, Deps: []string{"rule", "%", "\"", "="}}, "rule \"\" \":\" \"A B\" \"\\n\" : rule % \"\\\"\" \"=\"\n")
	wantText(t, api.Job{Targets: slices.Repeat([]string{"a"}, 1000)}, "rule"+times(1000, " a")+" :\n")
	self := []api.Stmt{{Op: api.OpRepeat, N: 1}}
	self[0].Body = self
	for _, code := range [][]api.Stmt{
		{{}}, {{Op: 13}}, {{Op: -1}}, {{Op: api.OpCat}}, {{Op: api.OpUpper}, {Op: api.OpUpper, N: 1}}, {{Op: api.OpRepeat, N: 1001}}, {{Op: api.OpUpper, Body: []api.Stmt{{Op: api.OpUpper}}}},
		slices.Repeat([]api.Stmt{{Op: api.OpUpper}}, api.MaxStmts+1), self,
	} {
		wantText(t, api.Job{Targets: []string{"a"}, Deps: []string{"b"}, Code: code}, "rule a : b\n")
	}
	wantText(t, api.Job{Targets: []string{"a"}, Code: slices.Repeat([]api.Stmt{{Op: api.OpUpper}}, api.MaxStmts)}, "rule a :\n"+times(api.MaxStmts, "\tupper\n"))
	wantText(t, api.Job{Targets: []string{"a"}, Code: []api.Stmt{{Op: api.OpText, Args: []string{times(100000, "x")}}}}, "rule a :\n\ttext "+times(100000, "x")+"\n")
}

// R3: what is handed in is not changed, the room behind its end neither.
func TestJobTextChangesNothing(t *testing.T) {
	room := []string{"a", "b", "c", "d"}
	code := []api.Stmt{{Op: api.OpText, Args: room[1:2]}, {Op: api.OpEach, Args: room[:1], Body: []api.Stmt{{Op: api.OpUpper}}}, {Op: api.OpFail}}
	j := api.Job{Key: "k", Targets: room[:2], Deps: room[:1], Code: code[:2]}
	was := fmt.Sprintf("%+v %+v %+v", j, room, code)
	for range 2 {
		wantText(t, j, "rule a b : a\n\ttext b\n\teach a\n\tupper\n\tend\n")
	}
	if fmt.Sprintf("%+v %+v %+v", j, room, code) != was {
		t.Error("what was handed in is changed")
	}
}

// P15.1, P15.7: a job's text of MaxJob bytes, and of one more.
func TestMaxJob(t *testing.T) {
	for n := 480; n < 520; n++ {
		code := "\n\ttext " + times(n, "x")
		f := root("rule b :\nrule ./a c : d d" + code)
		want := api.Job{Key: "a", Targets: []string{"a", "c"}, Deps: []string{"d"}, Code: []api.Stmt{{Op: api.OpText, Args: []string{times(n, "x")}}}}
		if len(elab.JobText(want)) > api.MaxJob {
			wantWrong(t, f, api.ErrJob, "r", 2, 5)
			wantWrong(t, files{"r": "include l\nrule $ :", "l": f["r"]}, api.ErrJob, "l", 2, 5)
			continue
		}
		wantJob(t, wantPlan(t, f), "c", want)
	}
	dep := times(30, "d")
	for n := 10; n < 20; n++ {
		var deps string
		for i := range n {
			deps += " " + dep + string(rune('a'+i))
		}
		f := root("let D =" + deps + "\nlet T = a b\nrule $(T) : $(D) $(D)")
		if len("rule a b :"+deps+"\n") > api.MaxJob {
			wantWrong(t, f, api.ErrJob, "r", 3, 5)
		} else {
			wantJob(t, wantPlan(t, f), "a", job("a b :"+deps, ""))
		}
	}
	wantWrong(t, root("rule a : ../d\n\ttext "+times(600, "x")), api.ErrArg, "r", 1, 9)
	wantWrong(t, root("rule a :\n\ttext "+times(600, "x")+"\n\tfly"), api.ErrStmt, "r", 3, 1)
	wantWrong(t, root("rule a :\n\tupper\n\ttext \""+times(260, "\\n")+"\""), api.ErrJob, "r", 1, 5) // 260 bytes, 520 as a word
	wantWrong(t, root("rule a :"+times(80, "\n\tupper")), api.ErrJob, "r", 1, 5)
	wantPlan(t, root("rule a :"+times(70, "\n\tupper")))
}

// P15.2, P15.7: a pattern makes the paths for which its job's text is not above MaxJob; the next one makes the others.
func TestMaxJobOfPatterns(t *testing.T) {
	p := wantPlan(t, root("rule %.o : %.c\n\tcat %.c\n\ttext "+times(400, "x")+"\n\twrite %.o\nrule %.o : x\nrule q% :\n\ttext "+times(600, "y")+"\nrule z% :\n\ttext "+times(15, "%%")+"\nrule z% : "+times(30, "%/../")+"z"))
	for n := 1; n < 31; n++ {
		s := times(n, "s")
		want := job(s+".o : "+s+".c", "cat "+s+".c / text "+times(400, "x")+" / write "+s+".o")
		if len(elab.JobText(want)) > api.MaxJob {
			want = job(s+".o : x", "")
		}
		wantJob(t, p, s+".o", want)
		wantNone(t, p, "q"+s)
		want = job("z"+s+" :", "text "+times(30, s))
		if len(elab.JobText(want)) > api.MaxJob {
			want = job("z"+s+" : z", "")
		}
		wantJob(t, p, "z"+s, want)
	}
	wantJob(t, p, "qq.o", job("qq.o : qq.c", "cat qq.c / text "+times(400, "x")+" / write qq.o"))
	wantNone(t, p, "q/q")
}

// P15.2, P15.7: a pattern's job whose text has MaxJob bytes just so, and one more.
func TestMaxJobOfPatternsJustSo(t *testing.T) {
	with := len(elab.JobText(job("x.o : x.c", "text")))
	for n := range 9 {
		stem := times(1+n, "s")
		long := times(api.MaxJob-with-2*n-1, "x") // a blank ahead of it
		p := wantPlan(t, root("rule %.o : %.c\n\ttext "+long))
		want := job(stem+".o : "+stem+".c", "text "+long)
		if s := elab.JobText(want); len(s) != api.MaxJob {
			t.Fatalf("%d bytes: %q", len(s), s)
		}
		wantJob(t, p, stem+".o", want)
		wantNone(t, p, stem+"s.o")
		wantNone(t, wantPlan(t, root("rule %.o : %.c\n\ttext x"+long)), stem+".o")
		q := wantPlan(t, root("rule %.o : %.c\n\ttext x"+long+"\nrule %.o :"))
		wantJob(t, q, stem+".o", job(stem+".o :", ""))
	}
}

// randomJob is one of few jobs, so that two are often the same.
func randomJob(r *rand.Rand) api.Job {
	pick := func(most int, from ...string) []string {
		var out []string
		for range r.Intn(most + 1) {
			out = append(out, from[r.Intn(len(from))])
		}
		return out
	}
	return api.Job{Key: strings.Join(pick(1, "a", "b"), ""), Targets: pick(2, "a", "b"), Deps: pick(2, "a", "b", "rule")}
}

// P15.8: two jobs have one text just if they are the same in Targets, Deps and Code, whatever their keys are.
func TestTextsTellJobsApart(t *testing.T) {
	r := rand.New(rand.NewSource(8))
	codes := [][]api.Stmt{nil, {}, stmts("upper"), stmts("upper / upper"), stmts("text a b"), stmts("text"), stmts("text a / text b"), stmts("cat a"), stmts("need a"),
		stmts("repeat 1 / end / upper"), stmts("repeat 1 / upper / end"), stmts("repeat 0 / upper / end"), stmts("when a b / end"), stmts("each a / end"),
		{{Op: api.OpText, Args: []string{"a b"}}}, {{Op: api.OpText, Args: []string{"a", "", "b"}}}, {{Op: api.OpText, Args: []string{"a\n\ttext", "b"}}}, {{Op: api.OpFail, Args: []string{}}}, {{Op: api.OpFail, Args: []string{""}}}}
	var jobs []api.Job
	for range 400 {
		j := randomJob(r)
		j.Code = codes[r.Intn(len(codes))]
		jobs = append(jobs, j)
	}
	for _, a := range jobs {
		for _, b := range jobs {
			same := slices.Equal(a.Targets, b.Targets) && slices.Equal(a.Deps, b.Deps) && action.Same(a.Code, b.Code)
			if (elab.JobText(a) == elab.JobText(b)) != same {
				t.Fatalf("%+v and %+v: %q, %q", a, b, elab.JobText(a), elab.JobText(b))
			}
		}
	}
}

// P15.4, P15.8: a text is read again as the job's rule.
func TestTextsAreReadAgain(t *testing.T) {
	for _, s := range []string{"rule a :\n", "rule a b : c d\n", "rule a : b\n\tcat b\n\trepeat 2\n\ttext \"a b\" \":\" x\n\tend\n\twrite a\n"} {
		items, where := rules.Parse(s)
		if where != (api.Where{}) || len(items) != 1 || lex.Write(items[0].Code) != s[strings.Index(s, "\n")+1:] {
			t.Fatalf("%q: %+v, %v", s, items, where)
		}
		j, is := wantPlan(t, root(s)).Find("a")
		if !is {
			t.Errorf("%q: no job", s)
		}
		wantText(t, j, s)
	}
}
