package elab_test

import (
	"slices"
	"strconv"
	"strings"
	"testing"

	"brickyard/api"
	"brickyard/elab"
)

// P15.2, P15.7: targets and deps in their one form; a dep that is like one ahead of it; each target finds the job.
func TestExplicitRules(t *testing.T) {
	for _, x := range []struct{ text, rule, code string }{
		{"rule a :", "a :", ""},
		{"rule a b c d : e f g h i j", "a b c d : e f g h i j", ""},
		{"rule ./a//b c/../d : e/. /f g/./h", "a/b d : e f g/h", ""},
		{"rule a : b b ./b c b c a a", "a : b c a", ""},
		{"rule \"a\":\"b\"\"c\"", "a : b c", ""},
		{"let T = x y\nlet D = y z\nrule $(T) t : $(D) d $(D) $(T)", "x y t : y z d x", ""},
		{"let E =\nrule $(E) a $(E) : $(E) b $(E)", "a : b", ""},
		{"rule a :\n\tcat %.c\n\ttext % %\n\twrite a", "a :", "cat %.c / text % % / write a"},
		{"rule a :\n\trepeat 3\n\teach b\n\twhen @ :\n\tend\n\tend\n\tend", "a :", "repeat 3 / each b / when @ : / end / end / end"},
		{"let C = cat b\nlet E =\nrule a : b\n\t$(C)\n\t$(E) upper $(E)\n# no line\n\n\t\"write\" a", "a : b", "cat b / upper / write a"},
		{"rule b a : c", "b a : c", ""},
		{"rule a :\nlet A = a", "a :", ""},
	} {
		p := wantPlan(t, root(x.text))
		want := job(x.rule, x.code)
		wantJobs(t, p, want)
		for _, s := range want.Targets {
			wantJob(t, p, s, want)
		}
		wantNone(t, p, "e", "z", "a/c", "r")
	}
}

// P15.1: what goes wrong at an explicit rule's targets.
func TestTargetsThatGoWrong(t *testing.T) {
	long := times(24, "a")
	long = long + "/" + long + "/" + long
	for _, x := range []struct {
		text string
		err  api.Errno
		line int
		col  int
	}{
		{"rule \"\" :", api.ErrArg, 1, 5},
		{"rule A :", api.ErrArg, 1, 5},
		{"rule a .. :", api.ErrArg, 1, 7},
		{"rule a b% :", api.ErrArg, 1, 7},
		{"rule a \"b c\" :", api.ErrArg, 1, 7},
		{"rule a a/.. :", api.ErrArg, 1, 7},
		{"rule " + long + " :", api.ErrLong, 1, 5},
		{"rule a " + long + " :", api.ErrLong, 1, 7},
		{"rule " + long + " ../a :", api.ErrLong, 1, 5},
		{"rule a a :", api.ErrTwice, 1, 7},
		{"rule a b ./a :", api.ErrTwice, 1, 9},
		{"rule a b a b :", api.ErrTwice, 1, 9},
		{"rule a b :\nrule c :\nrule d b e :", api.ErrTwice, 3, 7},
		{"rule a b :\nrule c ./b// :", api.ErrTwice, 2, 7},
		{"rule a :\nrule b A a :", api.ErrArg, 2, 7},
		{"rule a :\nrule b a A :", api.ErrTwice, 2, 7},
		{"rule a b c d ../e :", api.ErrArg, 1, 13},
		{"rule a b c d a :", api.ErrTwice, 1, 13},
		{"rule a b c d e A :", api.ErrJob, 1, 13},
		{"rule a b c d e f :", api.ErrJob, 1, 13},
		{"let V = b A c\nrule a $(V) c :", api.ErrArg, 2, 7},
		{"let V = b c a\nrule a $(V) c :", api.ErrTwice, 2, 7},
		{"let V = a b c\nrule x $(V) y :", api.ErrJob, 2, 12},
		{"let V = a b c d e\nrule $(V) :", api.ErrJob, 2, 5},
		{"let E =\nrule $(E) $(E) : a", api.ErrJob, 2, 5},
		{"let E =\nrule $(E) $(E) : ../a\n\tfly", api.ErrJob, 2, 5},
		{"let E =\nrule $(E) \"$(E)\" :", api.ErrArg, 2, 10},
		{"let V = a %\nrule $(V) :", api.ErrArg, 2, 5},
		{"rule a A : ../a\n\tfly", api.ErrArg, 1, 7},
		{"rule a a : ../a\n\tfly", api.ErrTwice, 1, 7},
		{"rule a b c d e : ../a\n\tfly", api.ErrJob, 1, 13},
		{"rule a \\\n  b A :", api.ErrArg, 2, 4},
	} {
		wantWrong(t, root(x.text), x.err, "r", x.line, x.col)
		wantWrong(t, files{"r": "let E =\n\ninclude l/m", "l/m": x.text}, x.err, "l/m", x.line, x.col)
		wantWrong(t, files{"r": "rule x% : ../x\ninclude m\nrule $ :", "m": x.text}, x.err, "m", x.line, x.col)
	}
}

// P15.1: what goes wrong at an explicit rule's deps; a pattern's deps do not go wrong so.
func TestDepsThatGoWrong(t *testing.T) {
	long := times(24, "a")
	long = long + "/" + long + "/" + long
	for _, x := range []struct {
		words string
		err   api.Errno
		col   int
	}{
		{"\"\"", api.ErrArg, 9}, {"A", api.ErrArg, 9}, {"b ..", api.ErrArg, 11}, {"b %", api.ErrArg, 11}, {"b %.c A", api.ErrArg, 11},
		{long, api.ErrLong, 9}, {"b b " + long + " A", api.ErrLong, 13}, {"$(V)", api.ErrArg, 9}, {"b $(V) A", api.ErrArg, 11}, {"$(W) V", api.ErrArg, 14}, {"c$$ " + long, api.ErrArg, 9},
	} {
		lets := "let V = b A\nlet W = b c\n"
		wantWrong(t, root(lets+"rule a : "+x.words), x.err, "r", 3, x.col)
		wantWrong(t, root(lets+"rule a : "+x.words+"\n\tfly"), x.err, "r", 3, x.col)
		p := wantPlan(t, root(lets+"rule a% : "+x.words+" ../z"))
		wantNone(t, p, "ab", "a", "b")
	}
}

// P15.1: code that goes wrong at each line, and wants an end; of explicit rules and of patterns.
func TestCodeThatGoesWrong(t *testing.T) {
	right := []string{"cat b", "repeat 2", "text \"c d\" :", "each list", "when @ a", "upper", "end", "end", "end", "write a"}
	for _, head := range []string{"rule a : b", "rule a% : b", "rule a% : ../b"} {
		wantPlan(t, root(head+"\n\t"+strings.Join(right, "\n\t")))
		for at := range len(right) + 1 {
			for wrong, err := range map[string]api.Errno{"fly": api.ErrStmt, "\"cat b\"": api.ErrStmt, "upper a": api.ErrStmt, ":": api.ErrStmt, "$(E)": api.ErrStmt, "\"$(E)\" end": api.ErrStmt, "$(V) $(V)": api.ErrStmt, "% a": api.ErrStmt, "repeat %": api.ErrStmt, "repeat 1%": api.ErrStmt} {
				lines := slices.Insert(slices.Clone(right), at, wrong)
				wantWrong(t, root("let E =\nlet V = cat a\n"+head+"\n\t"+strings.Join(lines, "\n\t")), err, "r", 4+at, 1)
			}
		}
		for at := range len(right) + 1 {
			wrong := at // the line of the end at which none is open: the one more, or, if that ends a body too early, the last one
			if at > 1 && at < 9 {
				wrong = 9
			}
			lines := slices.Insert(slices.Clone(right), at, "end")
			wantWrong(t, root(head+"\n\t"+strings.Join(lines, "\n\t")), api.ErrEnd, "r", 2+wrong, 1)
		}
		for n := 2; n <= 8; n++ { // the last lines are missing: a body is open behind all
			wantWrong(t, root(head+"\n\t"+strings.Join(right[:n], "\n\t")+"\n\n# behind\nlet X = a"), api.ErrEnd, "r", 1+n, 1)
		}
		wantWrong(t, root(head+"\n\teach \\\n x\n\n\t  \"upper\" # and no end"), api.ErrEnd, "r", 5, 3)
		deep := times(api.MaxNest, "\n\trepeat 1")
		wantPlan(t, root(head+deep+times(api.MaxNest, "\n\tend")))
		wantWrong(t, root(head+deep+"\n\twhen a b"), api.ErrDeep, "r", 2+api.MaxNest, 1)
		wantWrong(t, root(head+times(api.MaxStmts, "\n\tupper")+"\n\t sort"), api.ErrLong, "r", 2+api.MaxStmts, 2)
	}
	wantWrong(t, root("rule a : b\n\tupper\n\tfly\n\tend"), api.ErrStmt, "r", 3, 1)
	wantWrong(t, files{"r": "include m", "m": "rule a : b\n\tupper\n\n\n\tend"}, api.ErrEnd, "m", 5, 1)
}

// P15.1: what goes wrong at a pattern.
func TestPatternsThatGoWrong(t *testing.T) {
	for _, x := range []struct {
		text string
		err  api.Errno
		line int
		col  int
	}{
		{"rule %.o %.d :", api.ErrStem, 1, 9},
		{"rule %.o a b :", api.ErrStem, 1, 9},
		{"rule %.o \"\" :", api.ErrStem, 1, 9},
		{"rule %% a :", api.ErrStem, 1, 8},
		{"rule A% a :", api.ErrStem, 1, 8},
		{"rule %% :", api.ErrStem, 1, 5},
		{"rule A%% :", api.ErrStem, 1, 5},
		{"rule a%b%c :", api.ErrStem, 1, 5},
		{"rule A% :", api.ErrArg, 1, 5},
		{"rule ./% :", api.ErrArg, 1, 5},
		{"rule a//% :", api.ErrArg, 1, 5},
		{"rule %/ :", api.ErrArg, 1, 5},
		{"rule /% :", api.ErrArg, 1, 5},
		{"rule %/../a :", api.ErrArg, 1, 5},
		{"rule \"% \" :", api.ErrArg, 1, 5},
		{"rule %$$ :", api.ErrArg, 1, 5},
		{"rule " + times(30, "a/") + "% :", api.ErrArg, 1, 5},
		{"rule " + times(32, "a") + "% :", api.ErrArg, 1, 5},
		{"let V = %.o %.d\nrule $(V) :", api.ErrStem, 2, 5},
		{"let V = %.o %.d\nrule \"$(V)\" :", api.ErrStem, 2, 5},
		{"let V = %\nrule $(V)$(V) :", api.ErrStem, 2, 5},
		{"let V = %\nlet E =\nrule $(E) $(V) $(E) a :", api.ErrStem, 3, 20},
		{"let V = A%\nlet E =\nrule $(E) $(V) $(E) :", api.ErrArg, 3, 10},
		{"rule A% : ../a\n\tfly", api.ErrArg, 1, 5},
		{"rule %% : ../a\n\tfly", api.ErrStem, 1, 5},
		{"rule % a : ../a\n\tfly", api.ErrStem, 1, 7},
	} {
		wantWrong(t, root(x.text), x.err, "r", x.line, x.col)
		wantWrong(t, files{"r": "rule a : b\ninclude m", "m": x.text}, x.err, "m", x.line, x.col)
	}
	for _, s := range []string{"%", "a%", "%a", "a%b", "..%", "%.", "%..", "a/%/b", "%/a", times(29, "a/") + "a%", times(28, "a/") + "a/%a"} {
		p := wantPlan(t, root("rule "+s+" :"))
		x := strings.Replace(s, "%", "x", 1)
		wantJob(t, p, x, job(x+" :", ""))
		wantJobs(t, p)
	}
}

// P15.2, P15.7: what a pattern makes: its deps and its code with the stem for each %, deps once.
func TestPatterns(t *testing.T) {
	p := wantPlan(t, root("rule o/%.o : c/%.c h/%/%.h %.c ./%.c h %/../%.c\n\tcat %.c\n\teach %\n\ttext % : %%\n\tend\n\twrite o/%.o"))
	wantJobs(t, p)
	wantJob(t, p, "o/x.o", job("o/x.o : c/x.c h/x/x.h x.c h", "cat x.c / each x / text x : xx / end / write o/x.o"))
	wantJob(t, p, "o/x/y.o", job("o/x/y.o : c/x/y.c h/x/y/x/y.h x/y.c h x/x/y.c", "cat x/y.c / each x/y / text x/y : x/yx/y / end / write o/x/y.o"))
	wantNone(t, p, "o/.o", "o/x.c", "x.o", "oo/x.o", "o", "x.o/o", "o/o/x", "o/../x.o", "o//x.o", "o/X.o", "c/x.c")
	wantJob(t, p, "o/"+times(27, "x")+".o", job("o/xx.o : c/xx.c h/xx/xx.h xx.c h", "cat xx.c / each xx / text xx : xxxx / end / write o/xx.o", "xx", times(27, "x")))
	wantNone(t, p, "o/"+times(28, "x")+".o") // h/%/%.h has 61 bytes

	p = wantPlan(t, root("let S = %\nlet Q = \"% %\" $$\nrule a$(S) : $(S) b$(S)\n\ttext $(Q)"))
	j, is := p.Find("ax")
	if !is || elab.JobText(j) != "rule ax : x bx\n\ttext \"x x\" $\n" {
		t.Errorf("Find(ax): %+v, %v", j, is)
	}
	wantJob(t, wantPlan(t, root("rule a% : %")), "a/b", job("a/b : b", "")) // /b is the path b
	for _, dep := range []string{"%/..", "../%", "A%", "\"\"", "a%/../..", "\"% \"", "%$$", "a\\\n % ..", times(31, "%/") + "%", times(30, "a/") + "%"} {
		p := wantPlan(t, root("rule a% : a% "+dep+" b\nrule a% : c"))
		wantJob(t, p, "ax", job("ax : c", ""))
	}
}

// P15.2: the explicit rule, else the first pattern that makes a path, wherever they stand.
func TestWhoMakesAPath(t *testing.T) {
	p := wantPlan(t, files{
		"r": "rule %.o : %.c\n\ttext 1\ninclude l\nrule x% : ../%\nrule x% : %\n\ttext 4\nrule % : u\n\ttext 5",
		"l": "rule a.o b.c : z\n\ttext e\nrule a% : %\n\ttext 2",
	})
	wantJob(t, p, "a.o", job("a.o b.c : z", "text e"))
	wantJob(t, p, "b.c", job("a.o b.c : z", "text e"))
	wantJob(t, p, "aa.o", job("aa.o : aa.c", "text 1"))
	wantJob(t, p, "ab", job("ab : b", "text 2"))
	wantJob(t, p, "xb", job("xb : b", "text 4"))
	wantJob(t, p, "yb", job("yb : u", "text 5"))
	wantJob(t, p, "a", job("a : u", "text 5"))
	wantJobs(t, p, job("a.o b.c : z", "text e"))
}

// P15.2: patterns whose deps are paths for some stems alone: the next one makes the others.
func TestPatternsForSomeStems(t *testing.T) {
	p := wantPlan(t, root("rule %.o : "+times(20, "d/")+"%\nrule %.o : ..%/a %/.%./b\nrule %.o :"))
	wantJob(t, p, times(20, "x")+".o", job("xx.o : "+times(20, "d/")+"xx", "", "xx", times(20, "x")))
	wantJob(t, p, times(21, "x")+".o", job("xx.o : ..xx/a xx/.xx./b", "", "xx", times(21, "x")))
	wantJob(t, p, times(30, "x")+".o", job("xx.o :", "", "xx", times(30, "x"))) // the segment .%. is too long
	wantJob(t, p, times(15, "x/")+times(25, "y")+".o", job("xx.o :", "", "xx", times(15, "x/")+times(25, "y")))
}

// P15.1: MaxTargets and one more, of explicit targets and of patterns.
func TestMaxTargets(t *testing.T) {
	var b strings.Builder
	for i := range api.MaxTargets / 4 {
		n := strconv.Itoa(i)
		b.WriteString("rule a" + n + " b" + n + " c" + n + " d" + n + " : a" + n + "\n")
	}
	full := b.String()
	lines := api.MaxTargets/4 + 1
	if p := wantPlan(t, root(full)); p.Len() != api.MaxTargets/4 {
		t.Errorf("Len: %d", p.Len())
	}
	wantWrong(t, root(full+"rule x :"), api.ErrFull, "r", lines, 5)
	wantWrong(t, root(full+"rule x A : ../a\n\tfly"), api.ErrFull, "r", lines, 5)
	wantWrong(t, root(full+"rule x% :"), api.ErrFull, "r", lines, 5)
	wantWrong(t, root(full+"rule x% : ../a\n\tfly"), api.ErrFull, "r", lines, 5)
	wantWrong(t, root(full+"rule a1 :"), api.ErrTwice, "r", lines, 5)
	wantWrong(t, root(full+"rule A :"), api.ErrArg, "r", lines, 5)
	wantWrong(t, root(full+"rule A% :"), api.ErrArg, "r", lines, 5)
	wantWrong(t, root(full+"rule %% :"), api.ErrStem, "r", lines, 5)
	wantWrong(t, root(full+"rule x% y :"), api.ErrStem, "r", lines, 8)
	wantWrong(t, root(full+"let E =\nrule $(E) :"), api.ErrJob, "r", lines+1, 5)
	for left := 1; left <= 4; left++ {
		lines := strings.Split(full, "\n")
		lines[1] = []string{"", "rule a1 b1 c1 :", "rule a1 b1 :", "rule a1 :", ""}[left]
		ahead := strings.Join(lines[:len(lines)-1], "\n") + "\n"
		words := []string{"w", "x", "y", "z"}
		for n := 1; n <= 4; n++ {
			one := "rule " + strings.Join(words[:n], " ") + " :"
			each := "rule " + strings.Join(words[:n], "% :\nrule ") + "% :"
			if n <= left {
				wantPlan(t, root(ahead+one))
				wantPlan(t, root(ahead+each))
			} else {
				wantWrong(t, root(ahead+one), api.ErrFull, "r", 65, 5+2*left)
				wantWrong(t, root(ahead+each), api.ErrFull, "r", 65+left, 5)
				wantWrong(t, root(each+"\n"+ahead), api.ErrFull, "r", n+64, 5+4*(4-n+left))
			}
		}
	}
	var patterns string
	for i := range api.MaxTargets {
		patterns += "rule " + strconv.Itoa(i) + "% :\n"
	}
	wantPlan(t, root(patterns))
	wantWrong(t, root(patterns+"rule a% :"), api.ErrFull, "r", api.MaxTargets+1, 5)
	wantWrong(t, root(patterns+"rule a :"), api.ErrFull, "r", api.MaxTargets+1, 5)
	wantWrong(t, root(patterns+"rule 0% :"), api.ErrFull, "r", api.MaxTargets+1, 5) // patterns may be alike
	wantPlan(t, root(strings.Replace(patterns, "rule 255%", "rule 0%", 1)))
}
