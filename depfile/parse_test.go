package depfile_test

import (
	"slices"
	"strings"
	"testing"

	"brickyard/api"
	"brickyard/depfile"
)

// rule is a rule of a target and its deps.
func rule(target string, deps ...string) api.DepRule {
	return api.DepRule{Target: target, Deps: deps}
}

// same: are two lists of rules alike?
func same(a, b []api.DepRule) bool {
	return slices.EqualFunc(a, b, func(x, y api.DepRule) bool { return x.Target == y.Target && slices.Equal(x.Deps, y.Deps) })
}

// told is a text, and what is asked of it.
type told struct {
	text string
	want []api.DepRule
}

// tells asks of each text for its rules.
func tells(t *testing.T, rows ...told) {
	t.Helper()
	for _, x := range rows {
		got, s := depfile.Parse(x.text)
		if !same(got, x.want) || s != (api.Spot{}) {
			t.Errorf("Parse(%q): %q %v, want %q", x.text, got, s, x.want)
		}
	}
}

// wrongs asks of each text for ErrText at a place.
func wrongs(t *testing.T, rows map[string]int) {
	t.Helper()
	for text, at := range rows {
		got, s := depfile.Parse(text)
		if len(got) != 0 || s != (api.Spot{Err: api.ErrText, At: at}) {
			t.Errorf("Parse(%q): %q %v, want ErrText at %d", text, got, s, at)
		}
	}
}

func TestParseTellsRulesInOrder(t *testing.T) { // P16.1
	tells(t,
		told{"a.o: a.c h\nb.o :b.c", []api.DepRule{rule("a.o", "a.c", "h"), rule("b.o", "b.c")}},
		told{"a.o: a.c \\\n h\n", []api.DepRule{rule("a.o", "a.c", "h")}},
		told{"b:\na: b\nb: a\na: b\n", []api.DepRule{rule("b"), rule("a", "b"), rule("b", "a"), rule("a", "b")}},
		told{"a: x x x\n", []api.DepRule{rule("a", "x", "x", "x")}},
		told{"../A: /B//. $(C)\n", []api.DepRule{rule("../A", "/B//.", "$(C)")}},
	)
}

func TestParseOfLinesThatSayNothing(t *testing.T) { // P16.1
	for _, text := range []string{"", " ", "   ", "\n", "\n\n", "\n \n", " \n  \n ", "\\\n", " \\\n", "\\\n ", "\\\n\\\n", " \\\n \\\n \n\\\n", "\\\n\n"} {
		tells(t, told{text, nil}, told{text + "\na: b", []api.DepRule{rule("a", "b")}}, told{"a: b\n" + text, []api.DepRule{rule("a", "b")}})
	}
}

func TestParseOfLinesEnds(t *testing.T) { // P16.1
	a := []api.DepRule{rule("a", "b")}
	tells(t,
		told{"a:", []api.DepRule{rule("a")}}, told{"a:\n", []api.DepRule{rule("a")}}, told{"a: \n", []api.DepRule{rule("a")}}, told{"a :", []api.DepRule{rule("a")}},
		told{"a: b", a}, told{"a: b\n", a}, told{"a: b ", a}, told{"a: b \n", a},
		told{"a: b\\\n", a}, told{"a: b \\\n", a}, told{"a: b\\\n ", a}, told{"a: b\\\n\n", a}, told{"a: b\\\n\\\n", a},
		told{"a:\\\n", []api.DepRule{rule("a")}}, told{"a\\\n:", []api.DepRule{rule("a")}},
	)
}

func TestParseOfBlanksAndJoins(t *testing.T) { // P16.1
	want := []api.DepRule{rule("a", "b", "c")}
	for _, gap := range []string{" ", "  ", "\\\n", " \\\n", "\\\n ", "\\\n\\\n", " \\\n  \\\n "} {
		tells(t,
			told{gap + "a" + gap + ":" + gap + "b" + gap + "c" + gap, want},
			told{"a:b" + gap + "c", want},
			told{"a" + gap + ":b" + gap + "c\n", want},
			told{"a:" + gap + "b" + gap + "c\n" + gap, want},
			told{gap + "a:b" + gap + "c" + gap + "\n", want},
		)
	}
}

func TestParseOfBackslashes(t *testing.T) { // P16.1
	tells(t,
		told{"a\\ b: c\\:d \\\\\n", []api.DepRule{rule("a b", "c:d", `\`)}},
		told{`\ : \ `, []api.DepRule{rule(" ", " ")}},
		told{`\:: \:`, []api.DepRule{rule(":", ":")}},
		told{`\\: \\`, []api.DepRule{rule(`\`, `\`)}},
		told{`\\\\: \\\\`, []api.DepRule{rule(`\\`, `\\`)}},
		told{`a\\\ b: \ \:\\`, []api.DepRule{rule(`a\ b`, ` :\`)}},
		told{`a: b\\ c`, []api.DepRule{rule("a", `b\`, "c")}},
		told{`a\\: c`, []api.DepRule{rule(`a\`, "c")}},
		told{"a: \\\\\nb:", []api.DepRule{rule("a", `\`), rule("b")}},
		told{"a: \\\\\\\nb", []api.DepRule{rule("a", `\`, "b")}},
		told{"a: \\\\\\\\\nb:", []api.DepRule{rule("a", `\\`), rule("b")}},
		told{"a: \\ \\\nb", []api.DepRule{rule("a", " ", "b")}},
		told{`a: b\ `, []api.DepRule{rule("a", "b ")}},
	)
}

func TestParseOfTheColonsPlace(t *testing.T) { // P16.1
	want := []api.DepRule{rule("a", "b")}
	tells(t, told{"a:b", want}, told{"a :b", want}, told{"a: b", want}, told{"a : b", want}, told{"a  :  b", want}, told{" a:b", want})
}

func TestParseOfOtherBytes(t *testing.T) { // P16.1
	for c := 33; c < 256; c++ {
		s := string([]byte{byte(c)})
		if s == ":" || s == `\` {
			continue
		}
		tells(t, told{s + ": " + s + " " + s + "a a" + s, []api.DepRule{rule(s, s, s+"a", "a"+s)}})
	}
}

func TestParseOfBytesBelow32(t *testing.T) { // P16.1
	for c := range 32 {
		if c == '\n' {
			continue
		}
		s := string([]byte{byte(c)})
		wrongs(t, map[string]int{
			s: 0, " " + s: 1, "\n" + s: 1, "\\\n" + s: 2, s + "a: b": 0, "a" + s + ": b": 1, "a " + s + ": b": 2, "a:" + s: 2, "a:" + s + "b": 2, "a: b" + s: 4, "a: b " + s: 5, "a: b" + s + "c": 4,
			"a: b\n" + s: 5, "a: b\nc: d" + s: 9, "a: b\n" + s + "\n": 5, `\` + s + ": a": 0, `a\` + s + ": a": 1, `a: b\` + s: 4, `a: b \` + s: 5, `a: \\` + s: 5, "a: \\\n" + s: 5,
		})
	}
}

func TestParseOfOtherBackslashes(t *testing.T) { // P16.1
	for c := range 256 {
		if strings.IndexByte(" :\\\n", byte(c)) >= 0 {
			continue
		}
		s := `\` + string([]byte{byte(c)})
		wrongs(t, map[string]int{s + ": a": 0, "a" + s + ": a": 1, "a: " + s: 3, "a: b" + s: 4, "a: b " + s + "c\n": 5, "a: b\n" + s: 5, `a: \\` + s: 5})
	}
	wrongs(t, map[string]int{`\`: 0, ` \`: 1, `a\`: 1, `a:\`: 2, `a: \`: 3, `a: b\`: 4, `a: b\\\`: 6, "a: b\n\\": 5, "a: b\\\n\\": 6, `\\\`: 2})
}

func TestParseOfColonsThatGoWrong(t *testing.T) { // P16.1
	wrongs(t, map[string]int{
		":": 0, ": a": 0, " : a": 1, "\\\n:": 2, "a: b\n:": 5, "a: b\n : c": 6, ":a": 0, "\n:": 1,
		"a: b: c": 4, "a::": 2, "a: :": 3, "a: b :": 5, "a:b:c": 3, "a: b\\\n:": 6, "a\\ b: c\\:d \\\\:\n": 13, `a: b\::`: 6, `a:\\:`: 4, "a:\nb:c:": 6,
	})
}

func TestParseOfSecondWords(t *testing.T) { // P16.1
	wrongs(t, map[string]int{
		"a b: c": 2, "a  b: c": 3, "a b c: d": 2, " a b: c": 3, "a\\\nb: c": 3, "a \\\n b: c": 5, "x:\na b: c": 5, `a \:: c`: 2, `a \ b: c`: 2, `a\  b: c`: 4, `a\\ b: c`: 4,
		"a b": 2, "a b\n": 2, "a bc\td: e": 2, `a bc\d: e`: 2, "a b\n:": 2, "a \xff: b": 2,
	})
}

func TestParseOfLinesWithoutColon(t *testing.T) { // P16.1
	wrongs(t, map[string]int{
		"a": 1, "a\n": 1, "abc": 3, "abc\n": 3, "a ": 2, "a \n": 2, " a  ": 4, "a\\\n": 3, "a\\\n\n": 3, "a\\\n ": 4, "a: b\nc\n": 6, "a: b\nc": 6, "a\n: b": 1, "a\nb: c": 1, `a\:`: 3, `a\: b: c`: 4, "\\\\\n": 2, `\ `: 2,
	})
}

func TestParseTellsTheFirstError(t *testing.T) { // P16.1
	wrongs(t, map[string]int{
		"a: b: c\td": 4, "a\tb: c: d": 1, "a b\t:": 2, ": a\tb": 0, "a\nb c:": 1, "a b\nc": 2, "a: \\x :": 3, "a: : \\x": 3, "a: b\nc d: e\n: f\n\t": 7, "\ta b": 0, "a \t": 2, "a \\": 2, "a\\": 1, "a\\b c:": 1,
	})
}

func TestParseOfMaxText(t *testing.T) { // P16.1
	long := "a: " + strings.Repeat("b", api.MaxText-3)
	tells(t,
		told{long, []api.DepRule{rule("a", long[3:])}},
		told{strings.Repeat(" ", api.MaxText), nil},
		told{strings.Repeat("\\\n", api.MaxText/2), nil},
		told{strings.Repeat("\n", api.MaxText), nil},
	)
	wrongs(t, map[string]int{strings.Repeat("a", api.MaxText): api.MaxText, strings.Repeat("a", api.MaxText-1) + "\n": api.MaxText - 1, long[:api.MaxText-1] + "\t": api.MaxText - 1})
	many, s := depfile.Parse(strings.Repeat("a:\n", api.MaxText/3))
	if len(many) != api.MaxText/3 || s != (api.Spot{}) {
		t.Error(len(many), s)
	}
	for _, text := range []string{long + "b", long + " ", long + "\n", long + "\t", strings.Repeat("\t", api.MaxText+1), ":" + long, strings.Repeat(" ", 3*api.MaxText)} {
		got, s := depfile.Parse(text)
		if len(got) != 0 || s != (api.Spot{Err: api.ErrLong, At: api.MaxText}) {
			t.Errorf("%d bytes, %q first: %v %v", len(text), text[:4], len(got), s)
		}
	}
}
