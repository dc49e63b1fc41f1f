package rules_test

import (
	"fmt"
	"math"
	"slices"
	"testing"

	"brickyard/api"
	"brickyard/rules"
)

func w(s string) api.Word { return api.Word{Text: s} }

func q(s string) api.Word { return api.Word{Text: s, Quoted: true} }

func m(s string) api.Word { return api.Word{Text: s, Mark: true} }

func both(s string) api.Word { return api.Word{Text: s, Quoted: true, Mark: true} }

func wantPrint(t *testing.T, want string, l ...api.RuleItem) {
	t.Helper()
	if s, e := rules.Print(l); s != want || e != api.OK {
		t.Errorf("Print(%.300s): %.200q, %v, want %.200q", whole(l), s, e, want)
	}
	if !rules.May(l) {
		t.Errorf("May(%.300s): false", whole(l))
	}
	if len(want) > api.MaxText {
		return
	}
	if back, where := rules.Parse(want); where != (api.Where{}) || !rules.Same(back, l) || !rules.Same(l, back) {
		t.Errorf("Parse(%.200q): %.300s, %v", want, whole(back), where)
	}
}

// wantNot: a list that may not be, alone, ahead of one that may be, and behind it.
func wantNot(t *testing.T, x api.RuleItem) {
	t.Helper()
	good := let(1, "X", w("a"))
	for _, l := range [][]api.RuleItem{{x}, {x, good}, {good, x}, {good, x, good}} {
		if rules.May(l) {
			t.Errorf("May(%s): true", whole(l))
		}
		if s, e := rules.Print(l); s != "" || e != api.ErrArg {
			t.Errorf("Print(%s): %q, %v", whole(l), s, e)
		}
		if !rules.Same(l, l) {
			t.Errorf("%s is not the same as itself", whole(l))
		}
	}
}

// P12.3, P12.4
func TestPrint(t *testing.T) {
	wantPrint(t, "")
	wantPrint(t, "", []api.RuleItem{}...)
	wantPrint(t, "let X =\n", let(1, "X"))
	wantPrint(t, "let X =\n", api.RuleItem{Kind: api.ItemLet, Name: "X", Targets: []api.Word{}, Words: []api.Word{}, Code: []api.Line{}})
	wantPrint(t, "let ABCDEFGHIJKLMNOP = a \"b\" \"\" \":\" \"=\" \"\\n\\t\\\\\\\"\xff\"\n", let(0, "ABCDEFGHIJKLMNOP", w("a"), q("b"), q(""), q(":"), q("="), q("\n\t\\\"\xff")))
	wantPrint(t, "include a\n", include(-1, w("a")))
	wantPrint(t, "include \"\"\n", include(math.MaxInt, q("")))
	wantPrint(t, "rule a :\n", rule(1, words(w("a")), nil))
	wantPrint(t, "rule a \"b c\" : d \"e\"\n", rule(1, words(w("a"), q("b c")), words(w("d"), q("e"))))
	wantPrint(t, "rule a :\n\tb\n", rule(1, words(w("a")), nil, code(0, w("b"))))
	wantPrint(t, "rule a : b\n\tc : \"d\" = e\n\t:\n\t\"\"\n\t= =\n", rule(1, words(w("a")), words(w("b")), code(9, w("c"), m(":"), q("d"), m("="), w("e")), code(9, m(":")), code(1, q("")), code(-3, m("="), m("="))))
	wantPrint(t, "rule rule : let\n\trule let\ninclude include\nlet LET = let\n", rule(4, words(w("rule")), words(w("let")), code(3, w("rule"), w("let"))), include(2, w("include")), let(1, "LET", w("let")))
	wantPrint(t, "let X =\nlet X =\nrule a :\nrule a :\n", let(1, "X"), let(1, "X"), rule(1, words(w("a")), nil), rule(1, words(w("a")), nil))
	wantPrint(t, "include "+times(40000, "a")+"\n", include(1, w(times(40000, "a")))) // it is told, though it is too long to be read
	wantPrint(t, "include \""+times(20000, "\\n")+"\"\n", include(1, q(times(20000, "\n"))))
	wantPrint(t, times(5000, "let X =\n"), slices.Repeat([]api.RuleItem{let(7, "X")}, 5000)...)
}

// P12.3: numbers and places set at will.
func TestNumbersAreNotLookedAt(t *testing.T) {
	for _, n := range []int{math.MinInt, -1, 0, 1, 32769, math.MaxInt} {
		wantPrint(t, "let X = a \"b\"\ninclude c\nrule d : e\n\tf :\n",
			let(n, "X", word("a", n, -n), quoted("b", -n, n)), include(n, word("c", n, n)),
			rule(n, words(word("d", n, n)), words(word("e", n, n)), code(n, word("f", n, n), mark(":", n, n))))
	}
}

// P12.3: kinds below 1 and above 3, fields set that their kind does not name, and what a kind wants.
func TestMayNotByKind(t *testing.T) {
	good := []api.RuleItem{let(1, "X"), let(1, "X", w("a")), include(1, w("a")), rule(1, words(w("a")), nil), rule(1, words(w("a")), words(w("b")), code(2, w("c")))}
	for _, x := range good {
		if !rules.May([]api.RuleItem{x}) {
			t.Errorf("May(%+v): false", x)
		}
		for _, kind := range []int{math.MinInt, -3, -2, -1, 0, 4, 5, 257, math.MaxInt} {
			y := x
			y.Kind = kind
			wantNot(t, y)
		}
	}
	wantNot(t, api.RuleItem{})
	wantNot(t, api.RuleItem{Kind: api.ItemLet})
	wantNot(t, api.RuleItem{Kind: api.ItemInclude})
	wantNot(t, api.RuleItem{Kind: api.ItemRule})
	for _, name := range []string{"", "x", "1", "_", "X Y", "X\n", "\"X\"", times(17, "X")} {
		wantNot(t, let(1, name, w("a")))
	}
	targets, code1 := words(w("a")), []api.Line{code(1, w("b"))}
	wantNot(t, api.RuleItem{Kind: api.ItemLet, Name: "X", Targets: targets})
	wantNot(t, api.RuleItem{Kind: api.ItemLet, Name: "X", Code: code1})
	wantNot(t, api.RuleItem{Kind: api.ItemInclude, Words: targets, Name: "X"})
	wantNot(t, api.RuleItem{Kind: api.ItemInclude, Words: targets, Name: " "})
	wantNot(t, api.RuleItem{Kind: api.ItemInclude, Words: targets, Targets: targets})
	wantNot(t, api.RuleItem{Kind: api.ItemInclude, Words: targets, Code: code1})
	wantNot(t, api.RuleItem{Kind: api.ItemInclude, Targets: targets})
	wantNot(t, api.RuleItem{Kind: api.ItemInclude, Words: words(w("a"), w("b"))})
	wantNot(t, api.RuleItem{Kind: api.ItemRule, Targets: targets, Name: "X"})
	wantNot(t, api.RuleItem{Kind: api.ItemRule, Targets: targets, Name: "x"})
	wantNot(t, api.RuleItem{Kind: api.ItemRule, Words: targets})
	wantNot(t, api.RuleItem{Kind: api.ItemRule, Targets: []api.Word{}, Words: targets, Code: code1})
}

// P12.3: words that are marks, both quoted and a mark, neither quoted nor plain; at each place where words stand.
func TestMayNotByWords(t *testing.T) {
	good := []api.Word{w("a"), w("$(X)"), w("let"), q("a"), q(""), q("a b"), q(":"), q("\n"), q("\xff")}
	marks := []api.Word{m(":"), m("=")}
	bad := []api.Word{both(":"), both("="), both("a"), both(""), m(""), m("a"), m("::"), m(":="), m(" "), m(": "), m("\n"), m("\""), w(""), w(":"), w("="), w("a b"), w("a:"), w("#"), w("\""), w("\\"), w("\n"), w("\t"), w("\x00"), w("\xff"), w("a\x7f")}
	for _, x := range good {
		for _, l := range placed(x) {
			if !rules.May(l) {
				t.Errorf("May(%s): false", whole(l))
			}
		}
	}
	for i, x := range append(marks, bad...) {
		for _, l := range placed(x) {
			if inCode := len(l[0].Code) > 0; rules.May(l) != (inCode && i < len(marks)) {
				t.Errorf("May(%s): %v", whole(l), rules.May(l))
			}
		}
	}
}

// placed is lists of one item, each with that word at one place.
func placed(x api.Word) [][]api.RuleItem {
	a := words(w("a"))
	var out [][]api.RuleItem
	for _, list := range [][]api.Word{{x}, {x, w("b")}, {w("b"), x}, {q("b"), x, w("c")}} {
		out = append(out, []api.RuleItem{let(1, "X", list...)}, []api.RuleItem{rule(1, list, nil)}, []api.RuleItem{rule(1, list, a)}, []api.RuleItem{rule(1, a, list)},
			[]api.RuleItem{rule(1, a, nil, code(1, list...))}, []api.RuleItem{rule(1, a, a, code(1, w("d")), code(1, list...), code(1, w("e")))})
	}
	return append(out, []api.RuleItem{include(1, x)})
}

// P12.3
func TestMayNotByCode(t *testing.T) {
	a := words(w("a"))
	good, bare := code(1, w("b")), api.Line{Number: 1, Words: words(w("b"))}
	for _, l := range []api.Line{bare, {Number: 1, Indented: true}, {Number: 1, Indented: true, Words: []api.Word{}}, {}, {Words: words(w("rule"), w("c"), m(":"))}} {
		wantNot(t, rule(1, a, nil, l))
		wantNot(t, rule(1, a, nil, l, good))
		wantNot(t, rule(1, a, nil, good, l))
		wantNot(t, rule(1, a, nil, good, l, good))
	}
}

func wantSame(t *testing.T, is bool, a, b []api.RuleItem) {
	t.Helper()
	if rules.Same(a, b) != is || rules.Same(b, a) != is {
		t.Errorf("Same(%.200s, %.200s): not %v", whole(a), whole(b), is)
	}
	s, e := rules.Print(a)
	r, f := rules.Print(b)
	if e == api.OK && f == api.OK && (s == r) != is {
		t.Errorf("Print: %q and %q", s, r)
	}
}

// P12.3, P12.5: lists that differ in one thing alone.
func TestSame(t *testing.T) {
	base := func() []api.RuleItem {
		return []api.RuleItem{let(1, "X", w("a"), q("b")), include(2, w("c")), rule(3, words(w("d"), w("e")), words(w("f"), w("g")), code(4, w("h"), m(":"), q("i")), code(5, w("j")))}
	}
	wantSame(t, true, base(), base())
	for i, change := range []func(l []api.RuleItem){
		func(l []api.RuleItem) { l[0].Kind = api.ItemInclude },
		func(l []api.RuleItem) { l[2].Kind = 0 },
		func(l []api.RuleItem) { l[2].Kind = math.MinInt },
		func(l []api.RuleItem) { l[0].Name = "Y" },
		func(l []api.RuleItem) { l[0].Name = "" },
		func(l []api.RuleItem) { l[1].Name = "X" },
		func(l []api.RuleItem) { l[0].Words[0].Text = "aa" },
		func(l []api.RuleItem) { l[0].Words[0].Quoted = true },
		func(l []api.RuleItem) { l[0].Words[1].Quoted = false },
		func(l []api.RuleItem) { l[0].Words[1].Text = "" },
		func(l []api.RuleItem) { l[0].Words[0].Mark = true },
		func(l []api.RuleItem) { l[0].Words = l[0].Words[:1] },
		func(l []api.RuleItem) { l[0].Words = nil },
		func(l []api.RuleItem) { l[0].Words = append(l[0].Words, w("b")) },
		func(l []api.RuleItem) { slices.Reverse(l[0].Words) },
		func(l []api.RuleItem) { l[0].Targets = words(w("a")) },
		func(l []api.RuleItem) { l[0].Code = []api.Line{{}} },
		func(l []api.RuleItem) { l[1].Words[0].Text = "C" },
		func(l []api.RuleItem) { l[2].Targets[1].Text = "d" },
		func(l []api.RuleItem) { l[2].Targets[1].Quoted = true },
		func(l []api.RuleItem) { l[2].Targets[0].Mark = true },
		func(l []api.RuleItem) { l[2].Targets = l[2].Targets[:1] },
		func(l []api.RuleItem) { l[2].Targets, l[2].Words = l[2].Words, l[2].Targets },
		func(l []api.RuleItem) { l[2].Targets, l[2].Words = words(w("d")), words(w("e"), w("f"), w("g")) },
		func(l []api.RuleItem) { l[2].Words[1].Text = "" },
		func(l []api.RuleItem) { l[2].Words = nil },
		func(l []api.RuleItem) { l[2].Code = nil },
		func(l []api.RuleItem) { l[2].Code = l[2].Code[:1] },
		func(l []api.RuleItem) { slices.Reverse(l[2].Code) },
		func(l []api.RuleItem) {
			l[2].Code[0].Words = append(l[2].Code[0].Words, l[2].Code[1].Words...)
			l[2].Code = l[2].Code[:1]
		},
		func(l []api.RuleItem) { l[2].Code[0].Words[1].Text = "=" },
		func(l []api.RuleItem) { l[2].Code[0].Words[1].Mark = false },
		func(l []api.RuleItem) { l[2].Code[0].Words[1] = q(":") },
		func(l []api.RuleItem) { l[2].Code[0].Words[1].Quoted = true },
		func(l []api.RuleItem) { l[2].Code[0].Words[2].Quoted = false },
		func(l []api.RuleItem) { l[2].Code[1].Words[0].Text = "J" },
		func(l []api.RuleItem) { l[2].Code[1].Words = nil },
		func(l []api.RuleItem) { l[0], l[1] = l[1], l[0] },
	} {
		l := base()
		if change(l); rules.Same(l, base()) || rules.Same(base(), l) {
			t.Errorf("change %d is not seen", i)
		}
		wantSame(t, false, l, base())
		wantSame(t, true, l, l)
	}
	wantSame(t, false, base(), base()[:2])
	wantSame(t, false, base(), base()[1:])
	wantSame(t, false, base(), nil)
	wantSame(t, false, base(), append(base(), base()[2]))
}

// P12.3: numbers, places, and whether a line of code is indented; nil and empty lists.
func TestSameOfWhatIsNotLookedAt(t *testing.T) {
	a := []api.RuleItem{let(1, "X", word("a", 1, 8)), rule(2, words(word("b", 2, 5)), words(word("c", 2, 9)), code(3, word("d", 3, 1), mark("=", 3, 3)))}
	b := []api.RuleItem{let(-7, "X", word("a", 0, math.MinInt)), rule(0, words(word("b", 9, 9)), words(word("c", 8, 8)), code(77, word("d", 7, 7), mark("=", 6, 6)))}
	wantSame(t, true, a, b)
	b[1].Code[0].Indented = false
	wantSame(t, true, a, b)
	wantSame(t, true, nil, []api.RuleItem{})
	wantSame(t, true, nil, nil)
	empty := api.RuleItem{Targets: []api.Word{}, Words: []api.Word{}, Code: []api.Line{}}
	wantSame(t, true, []api.RuleItem{{}}, []api.RuleItem{empty})
	wantSame(t, false, []api.RuleItem{{}}, nil)
	empty.Code = []api.Line{{Indented: true, Words: []api.Word{}}}
	wantSame(t, true, []api.RuleItem{{Code: []api.Line{{Number: 3}}}}, []api.RuleItem{empty})
	wantSame(t, false, []api.RuleItem{{}}, []api.RuleItem{empty})
}

// R3: what is handed in is not changed, the room behind its end neither.
func TestArgumentsAreKept(t *testing.T) {
	room := words(word("a", 1, 2), quoted("b", 3, 4), word("behind", 5, 6), word("further", 7, 8))
	lines := []api.Line{code(1, room[:1]...), code(2, mark(":", 9, 9)), code(3, w("behind"))}
	l := []api.RuleItem{let(1, "X", room[:2]...), {Kind: api.ItemInclude, Words: room[:1]}, {Kind: api.ItemRule, Targets: room[:2], Words: room[:1], Code: lines[:2]}, let(9, "BEHIND")}
	was := fmt.Sprintf("%#v %#v %#v", l, room, lines)
	for range 2 {
		if s, e := rules.Print(l[:3]); e != api.OK || s != "let X = a \"b\"\ninclude a\nrule a \"b\" : a\n\ta\n\t:\n" {
			t.Errorf("Print: %q, %v", s, e)
		}
		if !rules.May(l[:3]) || !rules.Same(l[:3], l[:3]) || rules.Same(l[:3], l[:2]) {
			t.Error("May or Same")
		}
	}
	if fmt.Sprintf("%#v %#v %#v", l, room, lines) != was {
		t.Error("what was handed in is changed")
	}
}
