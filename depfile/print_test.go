package depfile_test

import (
	"math"
	"strings"
	"testing"

	"brickyard/api"
	"brickyard/depfile"
)

// prints asks Print for a text.
func prints(t *testing.T, want string, l ...api.DepRule) {
	t.Helper()
	if got, e := depfile.Print(l...); got != want || e != api.OK {
		t.Errorf("Print(%q): %q %v, want %q", l, got, e, want)
	}
}

// folds asks Fold for a text.
func folds(t *testing.T, width int, want string, l ...api.DepRule) {
	t.Helper()
	if got, e := depfile.Fold(width, l...); got != want || e != api.OK {
		t.Errorf("Fold(%d, %q): %q %v, want %q", width, l, got, e, want)
	}
}

func TestPrint(t *testing.T) { // P16.2
	prints(t, "")
	prints(t, "a:\n", rule("a"))
	prints(t, "a: b c b\n", rule("a", "b", "c", "b"))
	prints(t, "a: b\na: b\nc:\n", rule("a", "b"), rule("a", "b"), rule("c"))
	prints(t, "a\\ b: \\:\n", rule("a b", ":"))
	prints(t, "\\ \\:\\\\: \\\\\\\\ \\ \\ \n", rule(` :\`, `\\`, "  "))
	prints(t, "\xff\x7f!: \x80~\n", rule("\xff\x7f!", "\x80~"))
	prints(t, "../a//b: .\n", rule("../a//b", "."))
	long := strings.Repeat("x", 2*api.MaxText)
	prints(t, long+": "+long+"\n", rule(long, long))
}

func TestPrintAndFoldOfEachByte(t *testing.T) { // P16.2, P16.3
	for c := range 256 {
		s := string([]byte{byte(c)})
		for _, l := range [][]api.DepRule{{rule(s)}, {rule("a", s)}, {rule("a" + s + "b")}, {rule("a", "b", "c"+s)}} {
			want := "a"
			switch s {
			case " ", ":", `\`:
				want = `\` + s
			default:
				want = s
			}
			got, e := depfile.Print(l...)
			folded, f := depfile.Fold(10, l...)
			if c < 32 {
				if got != "" || e != api.ErrArg || folded != "" || f != api.ErrArg {
					t.Errorf("%q: %q %v, %q %v", l, got, e, folded, f)
				}
			} else if !strings.Contains(got, want) || e != api.OK || !strings.Contains(folded, want) || f != api.OK {
				t.Errorf("%q: %q %v, %q %v", l, got, e, folded, f)
			}
		}
	}
}

func TestPrintAndFoldOfRulesThatMayNotBe(t *testing.T) { // P16.2, P16.3
	good := rule("a", "b", "c")
	for _, bad := range []api.DepRule{{}, rule(""), rule("", "b"), rule("a", ""), rule("a", "", "b"), rule("a", "b", ""), rule("\n"), rule("a\x1f"), rule("\x00a", "b"), rule("a", "\t"), rule("a", "b", "c\nd"), rule("a", "b\r")} {
		for _, l := range [][]api.DepRule{{bad}, {bad, good}, {good, bad}, {good, bad, good}, {bad, bad}} {
			if s, e := depfile.Print(l...); s != "" || e != api.ErrArg {
				t.Errorf("Print(%q): %q %v", l, s, e)
			}
			for _, width := range []int{math.MinInt, 0, 8, math.MaxInt} {
				if s, e := depfile.Fold(width, l...); s != "" || e != api.ErrArg {
					t.Errorf("Fold(%d, %q): %q %v", width, l, s, e)
				}
			}
		}
	}
}

func TestFold(t *testing.T) { // P16.3
	a := rule("a.o", "a.c", "h", "lib/x.h")
	folds(t, 8, "a.o: a.c \\\n  h \\\n  lib/x.h\n", a)
	folds(t, 8, "")
	folds(t, 0, "")
	folds(t, 8, "a:\n", rule("a"))
	folds(t, 0, "a:\n", rule("a"))
	folds(t, 1, "abcdef:\nb:\n", rule("abcdef"), rule("b"))
	for _, width := range []int{math.MinInt, -1, 0, 1, 2, 3} {
		folds(t, width, "a.o: \\\n  a.c \\\n  h \\\n  lib/x.h\n", a)
	}
	for width, want := range map[int]string{
		7:  "a.o: \\\n  a.c h \\\n  lib/x.h\n", // "  a.c h" is of 7 bytes
		9:  "a.o: a.c \\\n  h \\\n  lib/x.h\n",
		10: "a.o: a.c h \\\n  lib/x.h\n",
		17: "a.o: a.c h \\\n  lib/x.h\n",
		18: "a.o: a.c h lib/x.h\n",
		19: "a.o: a.c h lib/x.h\n", math.MaxInt: "a.o: a.c h lib/x.h\n",
	} {
		folds(t, width, want, a)
	}
	folds(t, 10, "a.o: a.c h \\\n  lib/x.h\nb: c d e f \\\n  g\n", a, rule("b", "c", "d", "e", "f", "g"))
}

func TestFoldCountsWhatIsWritten(t *testing.T) { // P16.3
	a := rule("a b", ": :", `\`)
	folds(t, 15, "a\\ b: \\:\\ \\: \\\\\n", a)
	folds(t, 14, "a\\ b: \\:\\ \\: \\\n  \\\\\n", a)
	folds(t, 12, "a\\ b: \\:\\ \\: \\\n  \\\\\n", a)
	folds(t, 11, "a\\ b: \\\n  \\:\\ \\: \\\\\n", a)
	folds(t, 10, "a\\ b: \\\n  \\:\\ \\: \\\n  \\\\\n", a)
	folds(t, 4, "x: \\\n  \\\\ \\\n  y\n", rule("x", `\`, "y"))
	folds(t, 6, "x: \\\\ \\\n  y\n", rule("x", `\`, "y"))
}

func TestFoldBegins(t *testing.T) { // P16.3: each rule's line is counted by itself
	l := []api.DepRule{rule("abcd", "e"), rule("f", "g", "h"), rule("i", "j", "k")}
	folds(t, 6, "abcd: \\\n  e\nf: g h\ni: j k\n", l...)
	folds(t, 5, "abcd: \\\n  e\nf: g \\\n  h\ni: j \\\n  k\n", l...)
	folds(t, 4, "abcd: \\\n  e\nf: g \\\n  h\ni: j \\\n  k\n", l...)
	folds(t, 3, "abcd: \\\n  e\nf: \\\n  g \\\n  h\ni: \\\n  j \\\n  k\n", l...)
}
