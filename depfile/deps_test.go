package depfile_test

import (
	"slices"
	"strings"
	"testing"

	"brickyard/api"
	"brickyard/depfile"
)

// hangs asks Deps for an answer.
func hangs(t *testing.T, target string, l []api.DepRule, e api.Errno, want ...string) {
	t.Helper()
	if got, f := depfile.Deps(target, l...); !slices.Equal(got, want) || f != e {
		t.Errorf("Deps(%q, %q): %q %v, want %q %v", target, l, got, f, want, e)
	}
}

func TestDeps(t *testing.T) { // P16.4
	hangs(t, "a.o", []api.DepRule{rule("./a.o", "./a.c", "h"), rule("a.o", "h", "x")}, api.OK, "a.c", "h", "x")
	hangs(t, "a", []api.DepRule{rule("a")}, api.OK)
	hangs(t, "a", []api.DepRule{rule("a"), rule("a"), rule("b", "c")}, api.OK)
	hangs(t, "a", []api.DepRule{rule("a"), rule("a", "b")}, api.OK, "b")
	hangs(t, "a", []api.DepRule{rule("a", "c", "b", "c", "a", "b")}, api.OK, "c", "b", "a")
	hangs(t, "a", []api.DepRule{rule("b", "x"), rule("a", "z", "y"), rule("b", "w"), rule("a", "x", "y")}, api.OK, "z", "y", "x")
	hangs(t, "b", []api.DepRule{rule("a", "b"), rule("b", "c"), rule("c", "d")}, api.OK, "c")
}

func TestDepsOfOtherSpellings(t *testing.T) { // P16.4
	for _, s := range []string{"x/a", "x//a", "./x/a", "/x/a", "x/./a", "x/y/../a", "x/a/", "y/../x/a/.", "x/a/b/.."} {
		hangs(t, "x/a", []api.DepRule{rule("x/b", "w"), rule(s, "v"), rule("a", "u")}, api.OK, "v")
		hangs(t, "t", []api.DepRule{rule("t", "x/a", s, "v", s)}, api.OK, "x/a", "v")
		hangs(t, "t", []api.DepRule{rule("t", s, "v"), rule("./t", "x/a", s)}, api.OK, "x/a", "v")
	}
}

func TestDepsOfNoPath(t *testing.T) { // P16.4
	for _, s := range []string{"", ".", "..", "./a", "a/", "/a", "a//b", "A", "a b", "a/../b", "a\n", strings.Repeat("a/", 30) + "a", strings.Repeat("a", 33)} {
		for _, l := range [][]api.DepRule{nil, {rule(s, "b")}, {rule(s, "")}, {rule("a", "b"), rule(s, "b")}} {
			hangs(t, s, l, api.ErrArg)
		}
	}
}

func TestDepsOfTargetsThatNoRuleHas(t *testing.T) { // P16.4
	hangs(t, "b", nil, api.ErrNone)
	hangs(t, "b", []api.DepRule{}, api.ErrNone)
	hangs(t, "b", []api.DepRule{{}}, api.ErrNone)
	hangs(t, "b", []api.DepRule{rule("a", "b"), rule("B", "c"), rule("", "b"), rule("b/c", "b"), rule("c/b", "b"), rule("../b", "b"), rule("b b", "b")}, api.ErrNone)
	hangs(t, "b", []api.DepRule{rule("a", "B"), rule("c", "")}, api.ErrNone)
}

func TestDepsThatAreNoPaths(t *testing.T) { // P16.4
	long := strings.Repeat("a/", 30) + "a"
	for _, x := range []struct {
		dep string
		e   api.Errno
	}{{"", api.ErrArg}, {"B", api.ErrArg}, {"..", api.ErrArg}, {".", api.ErrArg}, {"a b", api.ErrArg}, {"a/../..", api.ErrArg}, {long, api.ErrLong}} {
		hangs(t, "t", []api.DepRule{rule("t", x.dep)}, x.e)
		hangs(t, "t", []api.DepRule{rule("t", "a", x.dep, "b")}, x.e)
		hangs(t, "t", []api.DepRule{rule("t", "a"), rule("./t", "b", x.dep)}, x.e)
		hangs(t, "t", []api.DepRule{rule("u", x.dep), rule("t", "a"), rule("T", x.dep), rule("", x.dep), rule(long, x.dep)}, api.OK, "a")
		hangs(t, "t", []api.DepRule{rule(x.dep, "b"), rule("t", "a")}, api.OK, "a")
		hangs(t, "v", []api.DepRule{rule("t", x.dep)}, api.ErrNone)
	}
	hangs(t, "t", []api.DepRule{rule("t", "a", long, "B")}, api.ErrLong)
	hangs(t, "t", []api.DepRule{rule("t", "a", "B", long)}, api.ErrArg)
	hangs(t, "t", []api.DepRule{rule("u", "B"), rule("t", long), rule("t", "B")}, api.ErrLong)
	hangs(t, "t", []api.DepRule{rule("u", long), rule("t", "B"), rule("t", long)}, api.ErrArg)
}

func TestMerge(t *testing.T) { // P16.5
	for _, x := range []struct{ l, want []api.DepRule }{
		{nil, nil},
		{[]api.DepRule{rule("a")}, []api.DepRule{rule("a")}},
		{[]api.DepRule{rule("a"), rule("a"), rule("a")}, []api.DepRule{rule("a")}},
		{[]api.DepRule{rule("a", "b"), rule("a", "b")}, []api.DepRule{rule("a", "b")}},
		{[]api.DepRule{rule("a", "c", "b", "c", "b")}, []api.DepRule{rule("a", "c", "b")}},
		{[]api.DepRule{rule("b", "x"), rule("a", "z"), rule("b", "w", "x"), rule("c"), rule("a", "y", "z")}, []api.DepRule{rule("b", "x", "w"), rule("a", "z", "y"), rule("c")}},
		{[]api.DepRule{rule("a"), rule("b", "a"), rule("a", "b")}, []api.DepRule{rule("a", "b"), rule("b", "a")}},
		{[]api.DepRule{rule("a", "x"), rule("./a", "x"), rule("a", "./x")}, []api.DepRule{rule("a", "x", "./x"), rule("./a", "x")}},
		{[]api.DepRule{{}, rule("", ""), rule("\n", "\t", ""), {}, rule("\n", "", "\t")}, []api.DepRule{rule("", ""), rule("\n", "\t", "")}},
		{[]api.DepRule{rule("A b", "\xff", "\xfe", "\xff")}, []api.DepRule{rule("A b", "\xff", "\xfe")}},
	} {
		if got := depfile.Merge(x.l...); !same(got, x.want) {
			t.Errorf("Merge(%q): %q, want %q", x.l, got, x.want)
		}
	}
}
