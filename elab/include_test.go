package elab_test

import (
	"slices"
	"strconv"
	"testing"

	"brickyard/api"
	"brickyard/elab"
)

// asking keeps what is asked for.
func asking(f files, asked *[]string) func(string) (string, bool) {
	return func(p string) (string, bool) {
		*asked = append(*asked, p)
		return f.read(p)
	}
}

// wantAsked: for these files is asked, one after the other, whatever comes of it; and the plan, if there is one, has them in Files, each once.
func wantAsked(t *testing.T, f files, want ...string) {
	t.Helper()
	var asked []string
	p, where := elab.New(asking(f, &asked), "r")
	if !slices.Equal(asked, want) {
		t.Errorf("New of %q (%v) asks for %q, want %q", f, where, asked, want)
	}
	var once []string
	for _, s := range want {
		if !slices.Contains(once, s) {
			once = append(once, s)
		}
	}
	if p != nil && !slices.Equal(p.Files(), once) {
		t.Errorf("Files: %q, want %q", p.Files(), once)
	}
}

// P15.1, P15.3: each file is asked for once for each time that it is read.
func TestFilesAreAskedForAsTheyAreRead(t *testing.T) {
	wantAsked(t, root("rule a :"), "r")
	wantAsked(t, files{"r": "include b\ninclude a\ninclude b", "a": "", "b": ""}, "r", "b", "a", "b")
	wantAsked(t, files{"r": "include c\ninclude b\ninclude a", "a": "include b", "b": "include d", "c": "include b\ninclude d", "d": ""}, "r", "c", "b", "d", "d", "b", "d", "a", "b", "d")
	wantAsked(t, files{"r": "include a\ninclude b", "a": "let x = 1", "b": ""}, "r", "a")
	wantAsked(t, files{"r": "let x = 1\ninclude a", "a": ""}, "r")
	wantAsked(t, files{"r": "include a\ninclude b\ninclude c", "a": "", "c": ""}, "r", "a", "b")
	wantAsked(t, files{"r": "include a", "a": "include r"}, "r", "a")
	wantAsked(t, files{"r": "include a\ninclude $(X)\ninclude a", "a": ""}, "r", "a")
	wantAsked(t, files{"r": "include .//a/../a\ninclude b/a", "a": "", "b/a": "include a"}, "r", "a", "b/a", "a")
}

// P15.1: what an include's word comes to.
func TestIncludeWords(t *testing.T) {
	f := files{"a/b": "rule x :", "c$": "rule y :"}
	for _, s := range []string{"include a/b", "include \"a/b\"", "include ./a//c/../b/.", "let V = a/b\ninclude $(V)", "let V = a\ninclude $(V)/b", "let V = a\ninclude \"$(V)/b\"", "let E =\ninclude $(E)a/b$(E)"} {
		f["r"] = s
		wantJobs(t, wantPlan(t, f), job("x", ""))
	}
	long := times(24, "a")
	for _, x := range []struct {
		text string
		err  api.Errno
		line int
	}{
		{"include ../a", api.ErrArg, 1},
		{"include A", api.ErrArg, 1},
		{"include \"\"", api.ErrArg, 1},
		{"include \"a b\"", api.ErrArg, 1},
		{"include %", api.ErrArg, 1},
		{"include c$$", api.ErrArg, 1},
		{"include " + long + "/" + long + "/" + long, api.ErrLong, 1},
		{"let V =\ninclude $(V)", api.ErrArg, 2},
		{"let V =\ninclude \"$(V)\"", api.ErrArg, 2},
		{"let V = \"\"\ninclude $(V)", api.ErrArg, 2},
		{"let V = \"\" \"\"\ninclude $(V)", api.ErrArg, 2},
		{"let V = a/b a/b\ninclude $(V)", api.ErrArg, 2},
		{"let V = a/b \"\"\ninclude $(V)", api.ErrArg, 2},
		{"let V = a/b a/b\ninclude \"$(V)\"", api.ErrArg, 2},
		{"include $a", api.ErrValue, 1},
		{"include $(V)", api.ErrValue, 1},
		{"include a", api.ErrNone, 1},
		{"include a/b/c", api.ErrNone, 1},
		{"include r", api.ErrLoop, 1},
		{"include ./x/../r", api.ErrLoop, 1},
		{"let V = r\ninclude $(V)", api.ErrLoop, 2},
	} {
		f["r"] = x.text
		wantWrong(t, f, x.err, "r", x.line, 8)
		wantWrong(t, files{"r": "let E =\ninclude s", "s": x.text, "a/b": ""}, x.err, "s", x.line, 8)
	}
}

// P15.1: a file that includes itself, directly and through others; one that is included again behind itself does not.
func TestLoops(t *testing.T) {
	wantWrong(t, files{"r": "include a", "a": "rule a :\ninclude a"}, api.ErrLoop, "a", 2, 8)
	wantWrong(t, files{"r": "include a", "a": "include r"}, api.ErrLoop, "a", 1, 8)
	wantWrong(t, files{"r": "include a", "a": "include b", "b": "include c", "c": "include a"}, api.ErrLoop, "c", 1, 8)
	wantWrong(t, files{"r": "include b\ninclude a", "a": "include b\ninclude a", "b": ""}, api.ErrLoop, "a", 2, 8)
	p := wantPlan(t, files{"r": "include a\ninclude b\ninclude a", "a": "include c", "b": "include c\ninclude a", "c": "let A = $$"})
	if f := p.Files(); !slices.Equal(f, []string{"r", "a", "c", "b"}) {
		t.Errorf("Files: %q", f)
	}
	wantWrong(t, files{"r": "include a\ninclude a", "a": "rule x :"}, api.ErrTwice, "a", 1, 5)
	wantPlan(t, files{"r": "let N = x\ninclude a\nlet N = y\ninclude a", "a": "rule $(N) :"})
}

// P15.1: MaxIncludes, and one more; nested ones count as well.
func TestMaxIncludes(t *testing.T) {
	f := files{"r": times(api.MaxIncludes, "include a\n"), "a": "rule %.o :"}
	p := wantPlan(t, f)
	if len(p.Files()) != 2 {
		t.Errorf("Files: %q", p.Files())
	}
	f["r"] += "include a"
	wantWrong(t, f, api.ErrLong, "r", api.MaxIncludes+1, 8)
	for _, last := range []string{"none", "r"} { // ErrLong goes ahead of ErrNone and ErrLoop
		f["r"] = times(api.MaxIncludes, "include a\n") + "include " + last
		wantWrong(t, f, api.ErrLong, "r", api.MaxIncludes+1, 8)
	}
	for _, last := range []string{"../a", "$$"} { // what is no path goes ahead of ErrLong
		f["r"] = times(api.MaxIncludes, "include a\n") + "include " + last
		wantWrong(t, f, api.ErrArg, "r", api.MaxIncludes+1, 8)
	}
	f = files{"r": times(32, "include a\n"), "a": "include b", "b": ""}
	wantPlan(t, f)
	f["r"] += "include b"
	wantWrong(t, f, api.ErrLong, "r", 33, 8)
	f = files{"r": times(31, "include a\n") + "include b\ninclude a", "a": "include b", "b": ""}
	wantWrong(t, f, api.ErrLong, "a", 1, 8)
}

// P15.1: MaxNest, and one more.
func TestMaxNest(t *testing.T) {
	f := files{}
	name := "r"
	for i := range api.MaxNest {
		next := "f" + strconv.Itoa(i+1)
		f[name] = "include " + next
		name = next
	}
	f["f8"] = "rule a :"
	wantJobs(t, wantPlan(t, f), job("a", ""))
	for _, last := range []string{"a", "none", "r", "f8"} { // ErrLong goes ahead of ErrNone and ErrLoop
		f["f8"], f["a"] = "rule a :\ninclude "+last, ""
		wantWrong(t, f, api.ErrLong, "f8", 2, 8)
	}
	f["f8"] = "rule a :\ninclude .."
	wantWrong(t, f, api.ErrArg, "f8", 2, 8)
	f["f8"], f["f7"] = "", "include f8\ninclude f8\ninclude f7"
	wantWrong(t, f, api.ErrLoop, "f7", 3, 8)
}

// P15.5: values go into an included file and come out of it; rules stand where the include stands.
func TestIncludesStandInTheirPlace(t *testing.T) {
	p := wantPlan(t, files{"r": "let A = a\nlet B = b\nrule 1 : $(A) $(B)\ninclude l\nrule 3 : $(A) $(B) $(C)", "l": "let B = $(A) $(B)\nlet C = c\nrule 2 : $(A) $(B)\nlet A ="})
	wantJobs(t, p, job("1 : a b", ""), job("2 : a b", ""), job("3 : a b c", ""))
	f := files{"r": "rule %a :\n\ttext 1\ninclude l\nrule %c :\n\ttext 3", "l": "rule %b :\n\ttext 2\nrule %ba :\n\ttext 2"}
	p = wantPlan(t, f)
	wantJob(t, p, "xba", job("xba", "text 1"))
	f["r"] = "include l\n" + "rule %a :\n\ttext 1"
	wantJob(t, wantPlan(t, f), "xba", job("xba", "text 2"))
	wantWrong(t, files{"r": "rule a :\ninclude l\nrule b :", "l": "rule b :\nrule a :"}, api.ErrTwice, "l", 2, 5)
	wantWrong(t, files{"r": "rule c :\ninclude l\nrule b :", "l": "rule b :\nrule a :"}, api.ErrTwice, "r", 3, 5)
	wantWrong(t, files{"r": "include l\n\tcat a", "l": "rule b :"}, api.ErrItem, "r", 2, 1)
}
