package rules_test

import (
	"fmt"
	"slices"
	"strings"
	"testing"

	"brickyard/api"
	"brickyard/lex"
	"brickyard/rules"
)

func times(n int, s string) string { return strings.Repeat(s, n) }

func word(s string, line, col int) api.Word { return api.Word{Text: s, Line: line, Col: col} }

func quoted(s string, line, col int) api.Word {
	return api.Word{Text: s, Line: line, Col: col, Quoted: true}
}

func mark(s string, line, col int) api.Word {
	return api.Word{Text: s, Line: line, Col: col, Mark: true}
}

func words(w ...api.Word) []api.Word { return w }

func code(number int, w ...api.Word) api.Line {
	return api.Line{Number: number, Indented: true, Words: w}
}

func let(line int, name string, w ...api.Word) api.RuleItem {
	return api.RuleItem{Kind: api.ItemLet, Line: line, Name: name, Words: w}
}

func include(line int, w api.Word) api.RuleItem {
	return api.RuleItem{Kind: api.ItemInclude, Line: line, Words: words(w)}
}

func rule(line int, targets, deps []api.Word, c ...api.Line) api.RuleItem {
	return api.RuleItem{Kind: api.ItemRule, Line: line, Targets: targets, Words: deps, Code: c}
}

// whole tells all of the items, in which nil and empty lists are one.
func whole(l []api.RuleItem) string { return fmt.Sprintf("%+v", l) }

func wantItems(t *testing.T, text string, want ...api.RuleItem) {
	t.Helper()
	if l, w := rules.Parse(text); whole(l) != whole(want) || w != (api.Where{}) {
		t.Errorf("Parse(%.200q): %.400s, %v, want %.400s", text, whole(l), w, whole(want))
	}
}

func wantWrong(t *testing.T, text string, e api.Errno, line, col int) {
	t.Helper()
	want := api.Where{Err: e, Line: line, Col: col}
	if l, w := rules.Parse(text); len(l) != 0 || w != want {
		t.Errorf("Parse(%.200q): %d items, %v, want %v", text, len(l), w, want)
	}
}

// P12.2: the chapter's examples.
func TestExamples(t *testing.T) {
	wantItems(t, "let CC = cc \"-O 2\"\ninclude lib/rules\nrule a.o : a.c a.h\n\tneed a.c\n\twrite a.o",
		let(1, "CC", word("cc", 1, 9), quoted("-O 2", 1, 12)),
		include(2, word("lib/rules", 2, 8)),
		rule(3, words(word("a.o", 3, 5)), words(word("a.c", 3, 11), word("a.h", 3, 15)),
			code(4, word("need", 4, 1), word("a.c", 4, 6)), code(5, word("write", 5, 1), word("a.o", 5, 7))))
	wantItems(t, "let X =", let(1, "X"))
	wantItems(t, "rule a :", rule(1, words(word("a", 1, 5)), nil))
	wantItems(t, "")
	wantItems(t, "let ABCDEFGHIJKLMNOP = 1", let(1, "ABCDEFGHIJKLMNOP", word("1", 1, 23)))
	for _, x := range []struct {
		text      string
		e         api.Errno
		line, col int
	}{
		{"\ta", 120, 1, 1}, {"let X = 1\n\ta", 120, 2, 1},
		{"\"let\" X = 1", 120, 1, 0}, {"x", 120, 1, 0}, {":", 120, 1, 0},
		{"let x = 1", 121, 1, 4}, {"let \"X\" = 1", 121, 1, 4}, {"let = 1", 121, 1, 4},
		{"let", 120, 1, 0}, {"let X", 120, 1, 4}, {"let X 1", 120, 1, 6},
		{"include", 120, 1, 0}, {"include a b", 120, 1, 10}, {"include :", 120, 1, 8},
		{"rule", 120, 1, 0}, {"rule a", 120, 1, 5}, {"rule : b", 120, 1, 5}, {"rule a = b", 120, 1, 7}, {"rule a : b : c", 120, 1, 11},
		{"let ABCDEFGHIJKLMNOPQ = 1", 121, 1, 4},
	} {
		wantWrong(t, x.text, x.e, x.line, x.col)
		wantWrong(t, "let Y =\n\n"+x.text+"\nlet Z =", x.e, x.line+2, x.col)
		wantWrong(t, x.text+" # rule a :", x.e, x.line, x.col)
	}
}

// isName is the word.
func isName(s string) bool {
	if len(s) < 1 || len(s) > 16 {
		return false
	}
	rest := strings.Trim(s, "ABCDEFGHIJKLMNOPQRSTUVWXYZ0123456789_")
	return rest == "" && !strings.Contains("0123456789_", s[:1])
}

// wantName asks Name, and Parse of a let with that name, where the text is one bare word.
func wantName(t *testing.T, s string, is bool) {
	t.Helper()
	if rules.Name(s) != is {
		t.Errorf("Name(%.40q): %v", s, !is)
	}
	if may := rules.May([]api.RuleItem{let(1, s)}); may != is {
		t.Errorf("May of a let %.40q: %v", s, may)
	}
	if strings.Trim(s, "ABCDEFGHIJKLMNOPQRSTUVWXYZabcdefghijklmnopqrstuvwxyz0123456789_-.$") != "" || s == "" {
		return
	}
	if is {
		wantItems(t, "let "+s+" =", let(1, s))
	} else {
		wantWrong(t, "let "+s+" =", api.ErrVar, 1, 4)
	}
}

// P12.1: names of 0, 1, 16 and 17 bytes, with each byte first and later.
func TestName(t *testing.T) {
	for _, s := range []string{"A", "Z", "M", "CC", "A0", "A9", "A_", "A__", "AZ", "X_1_Y", "A" + times(15, "9"), "A" + times(15, "_"), times(16, "Z")} {
		wantName(t, s, true)
	}
	for _, s := range []string{"", "a", "0", "9", "_", "_A", "1A", "Aa", "aA", "A-", "A.B", "A B", " A", "A ", "A\n", "A\x00", "É", "AÉ", "$A", times(17, "A"), "A" + times(16, "_"), times(30000, "A")} {
		wantName(t, s, false)
	}
	for c := range 256 {
		b := string([]byte{byte(c)})
		capital := c >= 'A' && c <= 'Z'
		later := capital || c >= '0' && c <= '9' || c == '_'
		wantName(t, b, capital)
		wantName(t, b+"A", capital)
		wantName(t, b+times(15, "A"), capital)
		wantName(t, b+times(16, "A"), false)
		for at := range 16 {
			ahead := "A" + times(at, "B")
			wantName(t, ahead+b, later && at < 15)
			wantName(t, ahead+b+times(14-min(at, 14), "C"), later && at < 15)
			wantName(t, ahead+b+times(15-at, "C"), false)
		}
		for d := range 256 {
			two := b + string([]byte{byte(d)})
			if rules.Name(two) != isName(two) {
				t.Errorf("Name(%q)", two)
			}
		}
	}
}

// P12.2: texts without items.
func TestNoItems(t *testing.T) {
	for _, s := range []string{"", "\n", "\n\n", " ", "\t", "\t\n \n", "#", "# let X = 1", "\t# a", "\\\n", "#\\\nrule", "\n#\n\t#\n"} {
		wantItems(t, s)
		n := strings.Count(s, "\n") + 3
		wantItems(t, s+"\n\nlet X =", let(n, "X"))
	}
}

// P12.2
func TestLets(t *testing.T) {
	wantItems(t, "let X = a", let(1, "X", word("a", 1, 8)))
	wantItems(t, "let X=a", let(1, "X", word("a", 1, 6)))
	wantItems(t, "let X=", let(1, "X"))
	wantItems(t, "  let  X  =  # b", let(1, "X"))
	wantItems(t, "let X = \"\"", let(1, "X", quoted("", 1, 8)))
	wantItems(t, "let X=\"=\"\":\"let", let(1, "X", quoted("=", 1, 6), quoted(":", 1, 9), word("let", 1, 12)))
	wantItems(t, "let X = let X rule include \"let\"", let(1, "X", word("let", 1, 8), word("X", 1, 12), word("rule", 1, 14), word("include", 1, 19), quoted("let", 1, 27)))
	wantItems(t, "let X = $(Y)$$ % * @", let(1, "X", word("$(Y)$$", 1, 8), word("%", 1, 15), word("*", 1, 17), word("@", 1, 19)))
	wantItems(t, "let X = 1\nlet X = 2", let(1, "X", word("1", 1, 8)), let(2, "X", word("2", 2, 8)))
	wantItems(t, "let\\\nX\\\n=\\\n1", let(1, "X", word("1", 4, 0)))
}

// P12.2
func TestIncludes(t *testing.T) {
	wantItems(t, "include a", include(1, word("a", 1, 8)))
	wantItems(t, "include \"a b\"", include(1, quoted("a b", 1, 8)))
	wantItems(t, "include\"\"", include(1, quoted("", 1, 7)))
	wantItems(t, "include \":\"", include(1, quoted(":", 1, 8)))
	wantItems(t, "include include", include(1, word("include", 1, 8)))
	wantItems(t, "include ../no//path", include(1, word("../no//path", 1, 8))) // what is a path is asked further up
	wantItems(t, "include \\\n\\\n a # b", include(1, word("a", 3, 1)))
}

// P12.2
func TestRules(t *testing.T) {
	a := words(word("a", 1, 5))
	wantItems(t, "rule a :", rule(1, a, nil))
	wantItems(t, "rule a:", rule(1, a, nil))
	wantItems(t, "rule a:b", rule(1, a, words(word("b", 1, 7))))
	wantItems(t, "rule a b \"c d\": \"e\" f \"\"", rule(1, words(word("a", 1, 5), word("b", 1, 7), quoted("c d", 1, 9)), words(quoted("e", 1, 16), word("f", 1, 20), quoted("", 1, 22))))
	wantItems(t, "rule rule : rule let", rule(1, words(word("rule", 1, 5)), words(word("rule", 1, 12), word("let", 1, 17))))
	wantItems(t, "rule\":\":\"=\"", rule(1, words(quoted(":", 1, 4)), words(quoted("=", 1, 8))))
	wantItems(t, "rule a a : a a", rule(1, words(word("a", 1, 5), word("a", 1, 7)), words(word("a", 1, 11), word("a", 1, 13))))
	wantItems(t, "rule a :\n\tb", rule(1, a, nil, code(2, word("b", 2, 1))))
	wantItems(t, "rule a :\n\t:\n\t= = \"=\"\n\t\"\"\n\trule c :\n\tlet X = 1 : 2\n\tlet",
		rule(1, a, nil, code(2, mark(":", 2, 1)), code(3, mark("=", 3, 1), mark("=", 3, 3), quoted("=", 3, 5)), code(4, quoted("", 4, 1)),
			code(5, word("rule", 5, 1), word("c", 5, 6), mark(":", 5, 8)),
			code(6, word("let", 6, 1), word("X", 6, 5), mark("=", 6, 7), word("1", 6, 9), mark(":", 6, 11), word("2", 6, 13)),
			code(7, word("let", 7, 1))))
	wantItems(t, "rule a :\n\tb\nrule c :\nrule d :\n\te\n\tf",
		rule(1, a, nil, code(2, word("b", 2, 1))),
		rule(3, words(word("c", 3, 5)), nil),
		rule(4, words(word("d", 4, 5)), nil, code(5, word("e", 5, 1)), code(6, word("f", 6, 1))))
}

// P12.2: a line without words says nothing, wherever it stands.
func TestCodeBehindLinesWithoutWords(t *testing.T) {
	for _, gap := range []string{"", "\n", "\n\n", "# c\n", "\t# c\n", "\t\n", "  \n", "\\\n\n", "# c\\\nlet X = 1\n", "\n#\n\n\t#\n"} {
		n := strings.Count(gap, "\n")
		b, c := code(2+n, word("b", 2+n, 1)), code(3+2*n, word("c", 3+2*n, 1))
		wantItems(t, "rule a :\n"+gap+"\tb\n"+gap+"\tc\n"+gap, rule(1, words(word("a", 1, 5)), nil, b, c))
		wantItems(t, gap+"let X =\n"+gap+"rule a :\n"+gap, let(1+n, "X"), rule(2+2*n, words(word("a", 2+2*n, 5)), nil))
		wantWrong(t, gap+"\tb", api.ErrItem, 1+n, 1)
		wantWrong(t, gap+"\t  b c", api.ErrItem, 1+n, 3)
		wantWrong(t, "let X = 1\n"+gap+"\tb", api.ErrItem, 2+n, 1)
		wantWrong(t, "include x\n"+gap+"\tb", api.ErrItem, 2+n, 1)
		wantWrong(t, "rule a :\n\tb\nlet X = 1\n"+gap+"\tc", api.ErrItem, 4+n, 1)
		wantWrong(t, "rule a :\n\tb\ninclude x\n"+gap+"\tc", api.ErrItem, 4+n, 1)
		wantWrong(t, "rule a :\nlet X = 1\n"+gap+"\tc", api.ErrItem, 3+n, 1)
	}
	for _, first := range []string{"let", "rule a :", ":", "\"x\"", "end"} {
		wantWrong(t, "\t"+first, api.ErrItem, 1, 1)
	}
}

// P12.2, P12.7: an item's number is that of the line where its logical line begins, its words' places are where they stand.
func TestJoins(t *testing.T) {
	wantItems(t, "# c\\\n d\n\\\n let \\\nX= \\\n \"a\\\nb\" c\n\ninclude\\\nd\nrule \\\n a\\\n:\\\nb\n\t\\\n x\\\n:\n#\n\ty",
		let(3, "X", quoted("a b", 6, 1), word("c", 7, 3)),
		include(9, word("d", 10, 0)),
		rule(11, words(word("a", 12, 1)), words(word("b", 14, 0)), code(15, word("x", 16, 1), mark(":", 17, 0)), code(19, word("y", 19, 1))))
	wantWrong(t, "\\\n x", api.ErrItem, 2, 1)
	wantWrong(t, "let\\\n  x = 1", api.ErrVar, 2, 2)
	wantWrong(t, "let \\\nX \\\n", api.ErrItem, 2, 0)
	wantWrong(t, "rule \\\n a \\\n b \\\n = c", api.ErrItem, 4, 1)
	wantWrong(t, "\t\\\n\\\n  b", api.ErrItem, 3, 2)
	wantWrong(t, "include a\\\nb", api.ErrItem, 2, 0)
}

// P12.2: a first word that is none of the three.
func TestFirstWord(t *testing.T) {
	for _, s := range []string{"x", "Let", "LET", "lets", "le", "includes", "Include", "rules", "Rule", "rul", "X", "$(X)", "end", ":", "=", ":=", "= let", ": rule a :", "\"let\" X = 1", "\"include\" a", "\"rule\" a :", "\"\"", "\"\"let X = 1", "let.X = 1", "rule-a :"} {
		wantWrong(t, s, api.ErrItem, 1, 0)
		wantWrong(t, "  "+s, api.ErrItem, 1, 2)
		wantWrong(t, "let X = 1\nrule a : b\n\tc\n"+s, api.ErrItem, 4, 0)
	}
	wantWrong(t, "rule: a", api.ErrItem, 1, 4) // here the first word is one of the three, and the mark is wrong
	wantWrong(t, "include: a", api.ErrItem, 1, 7)
	wantWrong(t, "let= 1", api.ErrVar, 1, 3)
}

// P12.2: a let's name, and what may stand behind it.
func TestWrongLets(t *testing.T) {
	for _, s := range []string{"x", "Xx", "1", "_X", "X-Y", "X.Y", "let", "$(X)", "\"X\"", "\"\"", "\"=\"", ":", "=", "ABCDEFGHIJKLMNOPQ"} {
		for _, behind := range []string{"", " ", " = 1", " =", " : 1", " 1", " = : ", " \"=\" 1"} {
			wantWrong(t, "let "+s+behind, api.ErrVar, 1, 4)
		}
	}
	for _, s := range []string{":", "1", "X", "\"=\"", "\"\"", ": = 1", "1 = 2", "= 1"} {
		if s[0] != '=' {
			wantWrong(t, "let X "+s, api.ErrItem, 1, 6)
			wantWrong(t, "let X "+s+" = :", api.ErrItem, 1, 6)
		}
		wantWrong(t, "let X = :"+s, api.ErrItem, 1, 8)
		wantWrong(t, "let X = ="+s, api.ErrItem, 1, 8)
		wantWrong(t, "let X = a b: "+s, api.ErrItem, 1, 11)
		wantWrong(t, "let X = a \"b\"= "+s, api.ErrItem, 1, 13)
	}
	for _, s := range []string{"let", "let ", "let#", "let # X = 1", "let\nX = 1", "let\\\n"} {
		wantWrong(t, s, api.ErrItem, 1, 0)
	}
	for _, s := range []string{"let X", "let X ", "let X # = 1", "let X\n= 1", "let X\\\n\n= 1"} {
		wantWrong(t, s, api.ErrItem, 1, 4)
	}
}

// P12.2
func TestWrongIncludes(t *testing.T) {
	for _, s := range []string{"include", "include ", "include # a", "include\na", "include\\\n\na"} {
		wantWrong(t, s, api.ErrItem, 1, 0)
	}
	for _, s := range []string{":", "=", ": a", "= a", ":a b", "::", "=\"a\""} {
		wantWrong(t, "include "+s, api.ErrItem, 1, 8)
	}
	for _, s := range []string{"b", "\"b\"", ":", "=", "b c", "b :", ": b", "= :"} {
		wantWrong(t, "include a "+s, api.ErrItem, 1, 10)
		wantWrong(t, "include\"\" "+s, api.ErrItem, 1, 10)
	}
}

// P12.2: a mark at each place of a rule, and a rule that ends at each place.
func TestWrongRules(t *testing.T) {
	for _, s := range []string{"rule", "rule ", "rule # a :", "rule\na :", "rule\\\n"} {
		wantWrong(t, s, api.ErrItem, 1, 0)
	}
	wantWrong(t, "rule a", api.ErrItem, 1, 5)
	wantWrong(t, "rule a b", api.ErrItem, 1, 7)
	wantWrong(t, "rule a b \":\"", api.ErrItem, 1, 9)
	wantWrong(t, "rule a b \":\" c # :", api.ErrItem, 1, 13)
	wantWrong(t, "rule a\n: b", api.ErrItem, 1, 5)
	wantWrong(t, "rule a\n\tb", api.ErrItem, 1, 5)
	line := []string{"rule", "a", "b", ":", "c", "d"}
	for at := 1; at <= len(line); at++ {
		for _, m := range []string{":", "="} {
			text := strings.Join(slices.Insert(slices.Clone(line), at, m), " ")
			col := len(strings.Join(line[:at], " ")) + 1
			if m == ":" && (at == 2 || at == 3) { // it may stand there: the one behind it is too many
				col = len("rule a b : ")
			}
			wantWrong(t, text, api.ErrItem, 1, col)
		}
	}
	for _, s := range []string{":", "=", ": a", "= a :", "::", ":=", "=:"} {
		wantWrong(t, "rule "+s, api.ErrItem, 1, 5)
		wantWrong(t, "rule a :"+s, api.ErrItem, 1, 8)
		wantWrong(t, "rule a :b"+s, api.ErrItem, 1, 9)
		wantWrong(t, "rule a :\"=\""+s, api.ErrItem, 1, 11)
	}
}

// P12.2: lex's errors stand ahead of all others, where lex.Place tells them.
func TestLexErrors(t *testing.T) {
	for _, x := range []struct {
		text      string
		line, col int
	}{
		{"let X = \t1", 1, 8}, {"let X = \"a", 1, 8}, {"let X = a\\", 1, 9}, {"let X = \"a\\q\"", 1, 10}, {"let X = é", 1, 8}, {"\t\ta", 1, 1}, {"\x00", 1, 0},
		{"let X = 1\nlet Y = \"2\n", 2, 8}, {"rule a :\n\tb\n\tc\td\n", 3, 2}, {"let X = \"a\\\nb", 1, 8}, {"let X = \"a\\\nb\\q\"", 2, 1}, {"let X = \\\n\ta", 2, 0}, {"#\\\n\n\xff", 3, 0},
		{"x\n\"", 2, 0}, {"\ta\nlet\nrule a : b \x7f", 3, 11}, {"let x = 1\n\nlet X = 1\r\n", 3, 9}, {"rule : a \"", 1, 9},
	} {
		wantWrong(t, x.text, api.ErrText, x.line, x.col)
	}
}

// P12.2: of two errors in one text the upper one, in a line the left one.
func TestTwoErrors(t *testing.T) {
	wantWrong(t, "let X 1\nlet x = 1", api.ErrItem, 1, 6)
	wantWrong(t, "let x = 1\nlet X 1", api.ErrVar, 1, 4)
	wantWrong(t, "let x 1 : 2", api.ErrVar, 1, 4)
	wantWrong(t, "let x", api.ErrVar, 1, 4)
	wantWrong(t, "let X : = :", api.ErrItem, 1, 6)
	wantWrong(t, "\tlet x = 1", api.ErrItem, 1, 1)
	wantWrong(t, "\"let\" x", api.ErrItem, 1, 0)
	wantWrong(t, "x let x", api.ErrItem, 1, 0)
	wantWrong(t, "include : b c", api.ErrItem, 1, 8)
	wantWrong(t, "include a : b", api.ErrItem, 1, 10)
	wantWrong(t, "rule = : =", api.ErrItem, 1, 5)
	wantWrong(t, "rule a = : =", api.ErrItem, 1, 7)
	wantWrong(t, "rule a : = :", api.ErrItem, 1, 9)
	wantWrong(t, "rule a\n\tb\nlet x = 1", api.ErrItem, 1, 5)
	wantWrong(t, "let X = 1\n\ta\nx", api.ErrItem, 2, 1)
	wantWrong(t, "rule a :\n\tb\nx\n\tc", api.ErrItem, 3, 0)
	wantWrong(t, "x"+times(32768, " "), api.ErrLong, 1, 32768)
}

// P12.2: texts of MaxText bytes and of one more.
func TestLong(t *testing.T) {
	a := times(32760, "a")
	wantItems(t, "let X = "+a, let(1, "X", word(a, 1, 8)))
	wantWrong(t, "let X = "+a+"a", api.ErrLong, 1, 32768)
	wantWrong(t, "let X = "+a+"\n", api.ErrLong, 1, 32768)
	wantItems(t, times(32760, "\n")+"let X = ", let(32761, "X"))
	wantWrong(t, times(32760, "\n")+"let X = 1", api.ErrLong, 32761, 8)
	wantWrong(t, times(32769, "\n"), api.ErrLong, 32769, 0)
	wantWrong(t, times(100000, "\n"), api.ErrLong, 32769, 0)
	wantWrong(t, times(100000, "\x00"), api.ErrLong, 1, 32768)
	wantWrong(t, times(16384, "x\n"), api.ErrItem, 1, 0)
	lets, _ := rules.Parse(times(4096, "let X =\n"))
	if len(lets) != 4096 || whole(lets[4095:]) != whole([]api.RuleItem{let(4096, "X")}) {
		t.Errorf("%d lets", len(lets))
	}
	lines, _ := rules.Parse("rule a :\n" + times(10919, "\tb\n"))
	if len(lines) != 1 || len(lines[0].Code) != 10919 || whole([]api.RuleItem{rule(0, nil, nil, lines[0].Code[10918])}) != whole([]api.RuleItem{rule(0, nil, nil, code(10920, word("b", 10920, 1)))}) {
		t.Errorf("%d rules", len(lines))
	}
	many, _ := rules.Parse("rule" + times(8000, " a") + ":" + times(8000, " b"))
	if len(many) != 1 || len(many[0].Targets) != 8000 || len(many[0].Words) != 8000 || many[0].Words[7999] != word("b", 1, 32004) {
		t.Errorf("%d rules of many words", len(many))
	}
}

// P12.6: two texts, one behind the other.
func wantBoth(t *testing.T, a, b string) {
	t.Helper()
	if strings.HasSuffix(a, "\\") || len(a)+1+len(b) > api.MaxText {
		return
	}
	x, wrongX := rules.Parse(a)
	y, wrongY := rules.Parse(b)
	further := strings.Count(a, "\n") + 1
	switch {
	case wrongX != (api.Where{}):
		if wrongY.Err != api.ErrText || wrongX.Err == api.ErrText { // an error of lex's stands ahead, wherever it is
			wantWrong(t, a+"\n"+b, wrongX.Err, wrongX.Line, wrongX.Col)
		}
	case wrongY != (api.Where{}):
		if beginsIndented(b) && wrongY.Err != api.ErrText {
			return // which may be the code of the first text's last rule
		}
		wantWrong(t, a+"\n"+b, wrongY.Err, wrongY.Line+further, wrongY.Col)
	default:
		wantItems(t, a+"\n"+b, append(x, moved(y, further)...)...)
	}
}

func beginsIndented(text string) bool {
	l, _ := lex.Lines(text)
	return len(l) > 0 && l[0].Indented
}

// moved is items, each number and place so many lines further on.
func moved(l []api.RuleItem, by int) []api.RuleItem {
	for i := range l {
		l[i].Line += by
		moveWords(l[i].Targets, by)
		moveWords(l[i].Words, by)
		for j := range l[i].Code {
			l[i].Code[j].Number += by
			moveWords(l[i].Code[j].Words, by)
		}
	}
	return l
}

func moveWords(w []api.Word, by int) {
	for i := range w {
		w[i].Line += by
	}
}

// P12.6
func TestTwoTexts(t *testing.T) {
	texts := []string{
		"", "let X = 1", "let X =\n", "include \"a\\\nb\"", "rule a :", "rule a : b\n\tc\n\td\n", "rule a :\\\n", "# c", "# c\\\n", "\n\n", "\\\nlet X = 1 \\\n 2", "let X = 1\n# c\ninclude b\nrule c d : e\n\n\tf",
		"\ta", "\n\ta\n", "x", "let X", "let x = 1", "rule", "let X = \"", "\x00", "rule a :\n\tb\tc", "let X = 1\n\ta", "let X = \\", "include a b\nrule",
	}
	for _, a := range texts {
		for _, b := range texts {
			wantBoth(t, a, b)
		}
	}
	wantItems(t, "rule a :"+"\n"+"\tb", rule(1, words(word("a", 1, 5)), nil, code(2, word("b", 2, 1)))) // though the second text alone says nothing
}

// P12.7: the places that are told stand in the text, an item's words in its lines, one behind the other.
func wantPlaces(t *testing.T, text string) {
	t.Helper()
	lines := strings.SplitAfter(text, "\n")
	l, w := rules.Parse(text)
	if w != (api.Where{}) {
		if w.Err == api.OK || w.Path != "" || w.Line < 1 || w.Line > len(lines) || w.Col < 0 || w.Col >= len(lines[w.Line-1]) {
			t.Errorf("Parse(%.200q): %v stands not there", text, w)
		}
		return
	}
	last := [2]int{}
	for i, x := range l {
		here := slices.Clone(x.Targets)
		if here = append(here, x.Words...); x.Line <= last[0] && i > 0 {
			t.Errorf("%.200q: an item in line %d, behind %v", text, x.Line, last)
		}
		number := x.Line
		for _, c := range x.Code {
			if here = append(here, c.Words...); c.Number <= number {
				t.Errorf("%.200q: code in line %d, behind %d", text, c.Number, number)
			}
			number = c.Number
		}
		for _, w := range here {
			if w.Line < x.Line || slices.Compare([]int{w.Line, w.Col}, last[:]) <= 0 || w.Line > len(lines) || i+1 < len(l) && w.Line >= l[i+1].Line {
				t.Errorf("%.200q: the word %+v behind %v", text, w, last)
				return
			}
			begin := w.Text
			if last = [2]int{w.Line, w.Col}; w.Quoted {
				begin = "\""
			}
			if !strings.HasPrefix(lines[w.Line-1][min(w.Col, len(lines[w.Line-1])):], begin) {
				t.Errorf("%.200q: no word %+v stands there", text, w)
			}
		}
	}
}

// P12.7
func TestPlaces(t *testing.T) {
	for _, text := range []string{
		"let X = 1 \"2\" 3\nrule a b : c d\n\te : f\n\tg\ninclude h", "\\\nlet\\\nX=\\\n1\\\n2", "let X = \"a\\\nb\" c\nlet Y = \"d\"e", "rule a:b\n\n\tc\\\n d\n#\n\te",
		"x", "\n\n  let \\\n x", "let X", "include a\\\n  b", times(32769, "\n"), times(32769, "a"), "let X = 1\n\ta", "a\n\"", "let X = \"\\\n",
	} {
		wantPlaces(t, text)
	}
}

// R3, R5: what was answered, written over by the caller, changes no later answer, and no other part of it.
func TestAnswersAreNew(t *testing.T) {
	text := "let X = a b\ninclude c\nrule d e : f g\n\th :\n\ti\nrule j :\nrule k : l\n\tm\n"
	want, _ := rules.Parse(text)
	l, _ := rules.Parse(text)
	over := mark("over", -1, -1)
	for i := range l {
		overwriteWords(t, l, &l[i].Targets, over)
		overwriteWords(t, l, &l[i].Words, over)
		for j := range l[i].Code {
			overwriteWords(t, l, &l[i].Code[j].Words, over)
		}
		kept := whole(l[:i]) + whole(l[i+1:]) + fmt.Sprint(l[i].Targets, l[i].Words)
		for j := range l[i].Code[:cap(l[i].Code)] {
			l[i].Code[:cap(l[i].Code)][j] = code(9, over)
		}
		if whole(l[:i])+whole(l[i+1:])+fmt.Sprint(l[i].Targets, l[i].Words) != kept {
			t.Errorf("the code of item %d, written over, is in others", i)
		}
	}
	clear(l[:cap(l)])
	wantItems(t, text, want...)
	none, _ := rules.Parse("")
	_ = append(none, let(9, "X"))
	wantItems(t, "")
}

// overwriteWords writes over a list of words of an answer, and over the room behind its end: nothing else may change.
func overwriteWords(t *testing.T, l []api.RuleItem, list *[]api.Word, over api.Word) {
	t.Helper()
	w := *list
	*list = nil
	kept := whole(l)
	for i := range w[:cap(w)] {
		w[:cap(w)][i] = over
	}
	if whole(l) != kept {
		t.Errorf("a list of %d words, written over, is in others", len(w))
	}
	*list = w
}
