package lex_test

import (
	"fmt"
	"math"
	"slices"
	"strings"
	"testing"

	"brickyard/api"
	"brickyard/lex"
)

func times(n int, s string) string { return strings.Repeat(s, n) }

func word(s string, line, col int) api.Word { return api.Word{Text: s, Line: line, Col: col} }

func quoted(s string, line, col int) api.Word {
	return api.Word{Text: s, Line: line, Col: col, Quoted: true}
}

func mark(s string, line, col int) api.Word {
	return api.Word{Text: s, Line: line, Col: col, Mark: true}
}

func line(number int, words ...api.Word) api.Line { return api.Line{Number: number, Words: words} }

func indented(number int, words ...api.Word) api.Line {
	return api.Line{Number: number, Indented: true, Words: words}
}

func sameLine(a, b api.Line) bool {
	return a.Number == b.Number && a.Indented == b.Indented && slices.Equal(a.Words, b.Words)
}

func sameLines(a, b []api.Line) bool { return slices.EqualFunc(a, b, sameLine) }

func wantLines(t *testing.T, text string, want ...api.Line) {
	t.Helper()
	if l, s := lex.Lines(text); !sameLines(l, want) || s != (api.Spot{}) {
		t.Errorf("Lines(%.200q): %.300s, %v, want %.300s", text, fmt.Sprintf("%+v", l), s, fmt.Sprintf("%+v", want))
	}
}

func wantWrong(t *testing.T, text string, at int) {
	t.Helper()
	wantSpot(t, text, api.Spot{Err: api.ErrText, At: at})
}

func wantSpot(t *testing.T, text string, want api.Spot) {
	t.Helper()
	if l, s := lex.Lines(text); len(l) != 0 || s != want {
		t.Errorf("Lines(%.200q): %d lines, %v, want %v", text, len(l), s, want)
	}
}

// P11.1: the chapter's examples.
func TestExamples(t *testing.T) {
	wantLines(t, "a: b c # d", line(1, word("a", 1, 0), mark(":", 1, 1), word("b", 1, 3), word("c", 1, 5)))
	wantLines(t, "\tx=\"\\\"q\"", indented(1, word("x", 1, 1), mark("=", 1, 2), quoted("\"q", 1, 3)))
	wantLines(t, "a\\\nb\n\n#c\nd", line(1, word("a", 1, 0), word("b", 2, 0)), line(5, word("d", 5, 0)))
	wantLines(t, "\"\"", line(1, quoted("", 1, 0)))
	for _, none := range []string{"", "\n\n", "# a", "\t# a"} {
		wantLines(t, none)
	}
	for text, at := range map[string]int{"a\tb": 1, "a\\": 1, "\"a": 0, "\"a\\q\"": 2, "\"a\\\\\nb\"": 2, "é": 0, "\"a\nb\"": 0} {
		wantWrong(t, text, at)
	}
	wantLines(t, "\"a\\\nb\"", line(1, quoted("a b", 1, 0)))
}

// P11.1
func TestLinesWithoutWords(t *testing.T) {
	for _, s := range []string{
		"", "\n", "\n\n\n", " ", "  \n", "\t", "\t\n", "\t  ", "#", "##", "# a\n", " # a", "\t#", "\t # a\n\t\n \n#\n\n", "\\\n", "\\\n\\\n", " \\\n \\\n ",
		"\t\\\n", "\\\n#", "# \\\na", "#\\\n\\\na b \" \\", "#\\\\\n\"a", "#\\\n\n#\\", "#\t\x00\xff\"\\q",
	} {
		wantLines(t, s)
		wantLines(t, s+"\n\na", line(strings.Count(s, "\n")+3, word("a", strings.Count(s, "\n")+3, 0)))
	}
}

// P11.1
func TestWords(t *testing.T) {
	a := line(1, word("a", 1, 0))
	wantLines(t, "a", a)
	wantLines(t, "a\n", a)
	wantLines(t, "a\n\n", a)
	wantLines(t, "a\nb", a, line(2, word("b", 2, 0)))
	wantLines(t, "a  b ", line(1, word("a", 1, 0), word("b", 1, 3)))
	wantLines(t, "  a b", line(1, word("a", 1, 2), word("b", 1, 4)))
	wantLines(t, "ab-c.d/e,f;g'h(i)[j]{k}~!", line(1, word("ab-c.d/e,f;g'h(i)[j]{k}~!", 1, 0)))
	wantLines(t, ":", line(1, mark(":", 1, 0)))
	wantLines(t, "=:=", line(1, mark("=", 1, 0), mark(":", 1, 1), mark("=", 1, 2)))
	wantLines(t, "a:b=c", line(1, word("a", 1, 0), mark(":", 1, 1), word("b", 1, 2), mark("=", 1, 3), word("c", 1, 4)))
	wantLines(t, "a : b", line(1, word("a", 1, 0), mark(":", 1, 2), word("b", 1, 4)))
	wantLines(t, "a:\"b\"c", line(1, word("a", 1, 0), mark(":", 1, 1), quoted("b", 1, 2), word("c", 1, 5)))
	wantLines(t, "a\"b\"\"c\":", line(1, word("a", 1, 0), quoted("b", 1, 1), quoted("c", 1, 4), mark(":", 1, 7)))
	wantLines(t, "a#b\nc #d\ne:#f\n\"g\"#h", a, line(2, word("c", 2, 0)), line(3, word("e", 3, 0), mark(":", 3, 1)), line(4, quoted("g", 4, 0)))
	wantLines(t, "a# \" \\ \t \x00 \xff é", a)
}

// P11.1
func TestTabs(t *testing.T) {
	wantLines(t, "\ta", indented(1, word("a", 1, 1)))
	wantLines(t, "\t a", indented(1, word("a", 1, 2)))
	wantLines(t, "a\n\tb\nc\n\t\n\td", line(1, word("a", 1, 0)), indented(2, word("b", 2, 1)), line(3, word("c", 3, 0)), indented(5, word("d", 5, 1)))
	wantLines(t, "\t\\\na", indented(1, word("a", 2, 0)))
	wantLines(t, "\t:\n\t\"\"", indented(1, mark(":", 1, 1)), indented(2, quoted("", 2, 1)))
	wantWrong(t, "\t\t", 1)
	wantWrong(t, "\t\ta", 1)
	wantWrong(t, " \ta", 1)
	wantWrong(t, "a\t", 1)
	wantWrong(t, "a \tb", 2)
	wantWrong(t, "a:\tb", 2)
	wantWrong(t, "a\t# b", 1)
	wantWrong(t, "a\n\tb\n\tc\td", 7)
	wantWrong(t, "\\\n\ta", 2) // behind a join it is not the logical line's first byte
	wantWrong(t, "a \\\n\tb", 4)
	wantWrong(t, "\t\\\n\ta", 3)
}

// P11.1, P11.7
func TestJoins(t *testing.T) {
	wantLines(t, "a\\\nb", line(1, word("a", 1, 0), word("b", 2, 0)))
	wantLines(t, "a \\\n  b", line(1, word("a", 1, 0), word("b", 2, 2)))
	wantLines(t, "\\\na", line(1, word("a", 2, 0)))
	wantLines(t, "a\\\n", line(1, word("a", 1, 0)))
	wantLines(t, "a\\\n\nb", line(1, word("a", 1, 0)), line(3, word("b", 3, 0)))
	wantLines(t, "a\\\n\\\n\\\nb\nc", line(1, word("a", 1, 0), word("b", 4, 0)), line(5, word("c", 5, 0)))
	wantLines(t, "a:\\\n=\\\nb", line(1, word("a", 1, 0), mark(":", 1, 1), mark("=", 2, 0), word("b", 3, 0)))
	wantLines(t, "a#b\\\nc\nd", line(1, word("a", 1, 0)), line(3, word("d", 3, 0)))
	wantLines(t, "a#\\\\\nc\nd", line(1, word("a", 1, 0)), line(3, word("d", 3, 0)))
	wantLines(t, "#\\\n\\\n\nd", line(4, word("d", 4, 0)))
	wantLines(t, "# \\\n", []api.Line{}...)
	wantLines(t, "\"\\\n\"", line(1, quoted(" ", 1, 0)))
	wantLines(t, "\"a\\\n \\\n\\\nb\" c\nd", line(1, quoted("a    b", 1, 0), word("c", 4, 3)), line(5, word("d", 5, 0)))
	wantLines(t, "\"a\\\n\tb\"", line(1, quoted("a \tb", 1, 0)))
	wantLines(t, "\"\\\\\\\n\"", line(1, quoted("\\ ", 1, 0)))
	wantLines(t, "\"\\\n#\\\n\"\\\n:", line(1, quoted(" # ", 1, 0), mark(":", 4, 0)))
	wantLines(t, "\na\\\nb\\\nc\nd", line(2, word("a", 2, 0), word("b", 3, 0), word("c", 4, 0)), line(5, word("d", 5, 0)))
	wantWrong(t, "\\\\\n", 0) // the first of the two is in no join
	wantWrong(t, "a\\\\\nb", 1)
	wantWrong(t, "a\\ \nb", 1)
	wantWrong(t, "a\\\n\\", 3)
	wantWrong(t, "\\\r\n", 0)
}

// P11.1
func TestQuotes(t *testing.T) {
	for text, want := range map[string]string{
		`""`: "", `"a"`: "a", `" "`: " ", `"\""`: "\"", `"\\"`: "\\", `"\n"`: "\n", `"\t"`: "\t", `"\\n"`: "\\n", `"\\\n"`: "\\\n", `"\\\\"`: "\\\\", `"\\\""`: "\\\"",
		`"#"`: "#", `":"`: ":", `"="`: "=", `"a # b : c = d"`: "a # b : c = d", "\"\t\"": "\t", "\"a\tb\"": "a\tb", "\"\xff\x00\x7f\r\"": "\xff\x00\x7f\r", "\"é\"": "é", `"nt"`: "nt", `"a\n\n\tb"`: "a\n\n\tb",
	} {
		wantLines(t, text, line(1, quoted(want, 1, 0)))
		wantLines(t, "\n a:"+text+"c", line(2, word("a", 2, 1), mark(":", 2, 2), quoted(want, 2, 3), word("c", 2, 3+len(text))))
	}
	for text, at := range map[string]int{
		`"`: 0, `"a`: 0, `a"`: 1, `"a" "`: 4, `"""`: 2, `"\"`: 0, `"\\\"`: 0, "\"\n\"": 0, "a \"b\nc\"": 2, "\"a\n": 0, "\"a#b": 0, "\"a\\\n": 0, "\"a\\\nb": 0, "\"a\\\nb\n\"": 0, "\"\t": 0, "\"\xff": 0,
		`"\`: 1, `"a\`: 2, `"\a"`: 1, `"\N"`: 1, `"\ "`: 1, `"\0"`: 1, `"\x41"`: 1, `"\:"`: 1, `"\#"`: 1, "\"\\\t\"": 1, "\"\\\x00\"": 1, "\"\\\xff\"": 1, "\"\\\r\n\"": 1, "\"\\\\\n\"": 1, "\"\\\\\\\\\n\"": 3, "\"\\\"\\\\\n\"": 3,
		`"a\q`: 2, "\"a\\q\n\"": 2, "\"a\\\\\n": 2, "\"a\\\n\\q": 4, `"a\qb\r`: 2, "\"a\nb\\q\"": 0, `\"a"`: 0, `a\"`: 1,
	} {
		wantWrong(t, text, at)
		wantWrong(t, "b\n# \"\n"+text, at+6)
		wantWrong(t, "b:c "+text, at+4)
	}
}

// isBare is the word.
func isBare(c int) bool { return c >= 33 && c <= 126 && !strings.ContainsRune("\"#:=\\", rune(c)) }

// P11.1, P11.3: each byte outside of quotes, within them, behind a backslash there, and in a comment.
func TestEachByte(t *testing.T) {
	for c := range 256 {
		b := string([]byte{byte(c)})
		wantLines(t, "#"+b, []api.Line{}...)
		if c != '\n' {
			wantLines(t, "#"+b+"a \"", []api.Line{}...)
		}
		outside(t, c, b)
		within(t, c, b)
		if lex.Plain(b) != isBare(c) {
			t.Errorf("Plain(%q): %v", b, !isBare(c))
		}
	}
}

func outside(t *testing.T, c int, b string) {
	t.Helper()
	switch {
	case isBare(c):
		wantLines(t, "x"+b+"y", line(1, word("x"+b+"y", 1, 0)))
		wantLines(t, b, line(1, word(b, 1, 0)))
	case c == ' ':
		wantLines(t, "x"+b+"y", line(1, word("x", 1, 0), word("y", 1, 2)))
	case c == '\n':
		wantLines(t, "x"+b+"y", line(1, word("x", 1, 0)), line(2, word("y", 2, 0)))
	case c == '#':
		wantLines(t, "x"+b+"y", line(1, word("x", 1, 0)))
	case c == ':', c == '=':
		wantLines(t, "x"+b+"y", line(1, word("x", 1, 0), mark(b, 1, 1), word("y", 1, 2)))
	default:
		wantWrong(t, "x"+b+"y", 1)
		if c != '\t' {
			wantWrong(t, b, 0)
		}
		wantWrong(t, "x "+b, 2)
	}
}

func within(t *testing.T, c int, b string) {
	t.Helper()
	switch told := map[int]string{'"': "\"", '\\': "\\", 'n': "\n", 't': "\t", '\n': " "}[c]; {
	case told != "":
		wantLines(t, "\"x\\"+b+"y\"", line(1, quoted("x"+told+"y", 1, 0)))
	default:
		wantWrong(t, "\"x\\"+b+"y\"", 2)
	}
	switch c {
	case '"':
		wantLines(t, "\"x\"y", line(1, quoted("x", 1, 0), word("y", 1, 3)))
	case '\\':
		wantWrong(t, "\"x\\y\"", 2)
	case '\n':
		wantWrong(t, "\"x\ny\"", 0)
	default:
		wantLines(t, "\"x"+b+"y\"", line(1, quoted("x"+b+"y", 1, 0)))
	}
}

// P11.1: texts of MaxText bytes and of one more.
func TestLong(t *testing.T) {
	long := api.Spot{Err: api.ErrLong, At: 32768}
	wantLines(t, times(32768, "a"), line(1, word(times(32768, "a"), 1, 0)))
	wantLines(t, times(32768, " "))
	wantLines(t, "#"+times(32767, "\""))
	wantLines(t, "\""+times(32766, "\xff")+"\"", line(1, quoted(times(32766, "\xff"), 1, 0)))
	wantLines(t, times(32767, "\n")+"a", line(32768, word("a", 32768, 0)))
	wantLines(t, times(16383, "\\\n")+"ab", line(1, word("ab", 16384, 0)))
	wantWrong(t, times(32767, "a")+"\t", 32767)
	wantWrong(t, "\""+times(32767, "a"), 0)
	wantWrong(t, "\""+times(32766, "a")+"\\", 32767)
	wantWrong(t, "\t\t"+times(32766, "a"), 1)
	for _, s := range []string{"a", " ", "\n", "\t", "\"", "\\", "\\\n", "\x00", "a:"} {
		wantSpot(t, times(32769, s)[:32769], long)
		wantSpot(t, times(100000, s), long)
	}
	marks, _ := lex.Lines(times(32768, ":"))
	if len(marks) != 1 || len(marks[0].Words) != 32768 || marks[0].Words[32767] != mark(":", 1, 32767) {
		t.Error("32768 marks")
	}
	lines, _ := lex.Lines(times(16384, "a\n"))
	if len(lines) != 16384 || !sameLine(lines[16383], line(16384, word("a", 16384, 0))) {
		t.Error("16384 lines")
	}
}

// P11.1: of two errors the one that is met first is told.
func TestTwoErrors(t *testing.T) {
	wantWrong(t, "a\tb\tc", 1)
	wantWrong(t, "\"a\n\t\t", 0)
	wantWrong(t, "a\\b \"c", 1)
	wantWrong(t, "\"c\\q\" \x00", 2)
	wantWrong(t, "a\n\x00\n\"b", 2)
	wantWrong(t, "\"b\n\x00", 0)
	wantWrong(t, "a # \x00 \"\n\x7f\"", 8)
	wantWrong(t, "\"a\\qb\\r", 2)
	wantSpot(t, "\t\t"+times(32767, "a"), api.Spot{Err: api.ErrLong, At: 32768})
}

func wantPlace(t *testing.T, text string, at, l, c int) {
	t.Helper()
	if a, b := lex.Place(text, at); a != l || b != c {
		t.Errorf("Place(%.60q, %d): %d %d, want %d %d", text, at, a, b, l, c)
	}
}

// P11.2
func TestPlace(t *testing.T) {
	wantPlace(t, "a\nb", 2, 2, 0)
	wantPlace(t, "a\nb", 1, 1, 1)
	wantPlace(t, "a\nb", 9, 2, 1)
	wantPlace(t, "a\nb", 0, 1, 0)
	wantPlace(t, "a\nb", 3, 2, 1)
	for _, at := range []int{-1, 0, math.MinInt} {
		wantPlace(t, "a\nb", at, 1, 0)
		wantPlace(t, "\n\n", at, 1, 0)
		wantPlace(t, "", at, 1, 0)
	}
	for _, at := range []int{3, 4, 1 << 40, math.MaxInt} {
		wantPlace(t, "a\nb", at, 2, 1)
		wantPlace(t, "\n\n\n", at, 4, 0)
		wantPlace(t, "", at, 1, 0)
		wantPlace(t, "a\\\n", at, 2, 0)
	}
	wantPlace(t, "\n\n", 1, 2, 0)
	wantPlace(t, "\n\n", 2, 3, 0)
	wantPlace(t, "a\\\nb", 3, 2, 0) // a join's byte 10 ends a line of the text
	wantPlace(t, "a\\\nb", 2, 1, 2)
	wantPlace(t, "\"\t\xff\x00é", 5, 1, 5)
	wantPlace(t, times(50000, "ab\n")+"c", 150000, 50001, 0) // it is no text of rules: it may be longer
	text := "ab\n\ncde\\\nf\n"
	l, c := 1, 0
	for at := range len(text) + 1 {
		wantPlace(t, text, at, l, c)
		if c++; at < len(text) && text[at] == '\n' {
			l, c = l+1, 0
		}
	}
}

// P11.3
func TestPlainQuoteShow(t *testing.T) {
	for _, s := range []string{"a", "a-b", "a.b/c", "!$%&'()*+,-./;<>?@[]^_`{|}~", times(50000, "z")} {
		if !lex.Plain(s) || lex.Show(s) != s || lex.Quote(s) != "\""+s+"\"" {
			t.Errorf("%.60q is bare: %v %.60q %.60q", s, lex.Plain(s), lex.Show(s), lex.Quote(s))
		}
	}
	for s, want := range map[string]string{
		"": `""`, " ": `" "`, "a b": `"a b"`, ":": `":"`, "=": `"="`, "#": `"#"`, "\"": `"\""`, "\\": `"\\"`, "\n": `"\n"`, "\t": `"\t"`, "a:": `"a:"`, "=a": `"=a"`, "a#b": `"a#b"`,
		"\\n": `"\\n"`, "\"a\"": `"\"a\""`, "\\\n\t\"": `"\\\n\t\""`, "\x00\r\x7f\xff": "\"\x00\r\x7f\xff\"", "é": "\"é\"", "a\x80": "\"a\x80\"", times(40000, " "): "\"" + times(40000, " ") + "\"",
	} {
		if lex.Plain(s) || lex.Show(s) != want || lex.Quote(s) != want {
			t.Errorf("%.60q: %v %.60q %.60q", s, lex.Plain(s), lex.Show(s), lex.Quote(s))
		}
	}
}

// P11.6
func TestQuoteAndShowAreRead(t *testing.T) {
	texts := []string{"", "a", "a b", "\\", "\\\\", "\\\n", "\n", "\n\\", "\"", "\\\"", "\\n", "\\t", "\t", "#", ":", "=", "\xff", times(32766, "a"), times(32766, "\x00"), times(16383, "\""), times(16383, "\n")}
	for c := range 256 {
		for d := range 256 {
			texts = append(texts, string([]byte{byte(c), byte(d)}))
		}
	}
	for _, s := range texts {
		wantLines(t, lex.Quote(s), line(1, quoted(s, 1, 0)))
		if lex.Plain(s) {
			wantLines(t, lex.Show(s), line(1, word(s, 1, 0)))
		} else {
			wantLines(t, lex.Show(s), line(1, quoted(s, 1, 0)))
		}
	}
	long := api.Spot{Err: api.ErrLong, At: 32768}
	wantSpot(t, lex.Quote(times(32767, "a")), long)
	wantSpot(t, lex.Quote(times(16384, "\n")), long)
	wantLines(t, lex.Show(times(32768, "a")), line(1, word(times(32768, "a"), 1, 0)))
}

func wantWrite(t *testing.T, want string, l ...api.Line) {
	t.Helper()
	if got := lex.Write(l); got != want {
		t.Errorf("Write: %.100q, want %.100q", got, want)
	}
}

// P11.4
func TestWrite(t *testing.T) {
	wantWrite(t, "")
	wantWrite(t, "", []api.Line{}...)
	wantWrite(t, "\n", line(1))
	wantWrite(t, "\t\n", indented(1))
	wantWrite(t, "\n\t\n\n", line(0), indented(-1), line(math.MaxInt))
	wantWrite(t, "a : b\n", line(1, word("a", 1, 0), mark(":", 1, 1), word("b", 1, 2)))
	wantWrite(t, "\ta \"a\" \"\"\nb\n", indented(7, word("a", 9, 9), quoted("a", 3, -4), word("", 0, 0)), line(2, word("b", math.MinInt, 1)))
	wantWrite(t, "\":\" \"=\" \"a b\" \"\\n\" \"\\t\" \"\\\\\" \"\\\"\" \"\xff\"\n", line(1, word(":", 1, 0), word("=", 1, 0), word("a b", 1, 0), word("\n", 1, 0), word("\t", 1, 0), word("\\", 1, 0), word("\"", 1, 0), word("\xff", 1, 0)))
	wantWrite(t, "a  x y \n \"\n", line(1, mark("a", 1, 0), mark("", 1, 0), mark("x y", 1, 0), mark("\n", 1, 0), mark("\"", 1, 0))) // a mark's text stands as it is, whatever it is
	both := mark("a b", 1, 0)
	both.Quoted = true
	wantWrite(t, "a b\n", line(1, both))
	wantWrite(t, times(40000, "a")+" a\n", line(1, word(times(40000, "a"), 1, 0), word("a", 0, 0)))
	wantWrite(t, times(40000, "\n"), make([]api.Line, 40000)...)
}

// bared is lines without numbers and places.
func bared(l []api.Line) []api.Line {
	var out []api.Line
	for _, x := range l {
		b := api.Line{Indented: x.Indented}
		for _, w := range x.Words {
			b.Words = append(b.Words, api.Word{Text: w.Text, Quoted: w.Quoted, Mark: w.Mark})
		}
		out = append(out, b)
	}
	return out
}

// P11.5
func wantBack(t *testing.T, text string, l []api.Line) {
	t.Helper()
	written := lex.Write(l)
	if len(written) > api.MaxText {
		return
	}
	back, s := lex.Lines(written)
	if s != (api.Spot{}) || !sameLines(bared(back), bared(l)) {
		t.Errorf("%q, written as %q: %v", text, written, s)
	}
	if again := lex.Write(back); again != written {
		t.Errorf("%q, written as %q, written again as %q", text, written, again)
	}
}

// P11.5
func TestThereAndBack(t *testing.T) {
	for _, text := range []string{"", "a", "\ta:b\n\n\tc \"d\" \"\" = # e", "\"a\" a \":\" : \"=\"=", "\"\\n\\t\\\\\\\"\xff\x00\t\"", "a\\\nb\\\n\"c\\\nd\"\n\t\\\n e", times(16384, "a\n"), "\t" + times(16000, "a:")} {
		l, s := lex.Lines(text)
		if s != (api.Spot{}) {
			t.Errorf("%.60q: %v", text, s)
		}
		wantBack(t, text, l)
	}
}

// P11.7
func TestWhatChangesNothing(t *testing.T) {
	plain, _ := lex.Lines("a:\"b\"c\n\td\n")
	for _, text := range []string{
		"a : \"b\" c\n\td", "  a:  \"b\"  c  \n\t  d  \n", "a:\"b\"c#e\n\td # \" \\\n", "\n\na:\"b\"c\n\n \n#\n\t\n\td\n\n#", "a \\\n: \\\n\"b\" \\\nc \\\n\n\t \\\nd", "a: \\\n\\\n \\\n \"b\"c # \\\n e\n\td \\\n", " \\\na:\"b\"c\n\t \\\n\\\nd",
	} {
		if l, s := lex.Lines(text); s != (api.Spot{}) || !sameLines(bared(l), bared(plain)) {
			t.Errorf("%q: %v, %v", text, l, s)
		}
	}
}

// P11.7: two texts, one behind the other.
func wantBoth(t *testing.T, a, b string) {
	t.Helper()
	if strings.HasSuffix(a, "\\") || len(a)+1+len(b) > api.MaxText {
		return
	}
	x, wrongX := lex.Lines(a)
	y, wrongY := lex.Lines(b)
	l, s := lex.Lines(a + "\n" + b)
	further := strings.Count(a, "\n") + 1
	switch {
	case wrongX != (api.Spot{}):
		if s != wrongX || len(l) != 0 {
			t.Errorf("%q and %q: %v, want %v", a, b, s, wrongX)
		}
	case wrongY != (api.Spot{}):
		if wrongY.At += len(a) + 1; s != wrongY || len(l) != 0 {
			t.Errorf("%q and %q: %v, want %v", a, b, s, wrongY)
		}
	default:
		for _, m := range y {
			for i := range m.Words {
				m.Words[i].Line += further
			}
			m.Number += further
			x = append(x, m)
		}
		if s != (api.Spot{}) || !sameLines(l, x) {
			t.Errorf("%q and %q: %v, %v", a, b, l, s)
		}
	}
}

// P11.7
func TestTwoTexts(t *testing.T) {
	texts := []string{"", "a", "\ta:b", "a\n", "\n", "a\\\n", "a\\\nb", "# c", "# c\\\n", "\"d\"", "\"d", "\"d\n", "\"d\\\n", "\"\\", "a\\", "a\tb", "\x00", "\t", "\t#", "a b\n\tc\n\n", "\"\\q", "\"a\\\nb\" c", "#\\"}
	for _, a := range texts {
		for _, b := range texts {
			wantBoth(t, a, b)
		}
	}
}

// P11.8
func wantPlaces(t *testing.T, text string, l []api.Line) {
	t.Helper()
	lines := strings.SplitAfter(text, "\n")
	last := [2]int{0, 0}
	number := 0
	for _, x := range l {
		if x.Number <= number || len(x.Words) == 0 || x.Number > x.Words[0].Line {
			t.Errorf("%q: line %d behind line %d, its words %v", text, x.Number, number, x.Words)
		}
		number = x.Number
		for _, w := range x.Words {
			here := [2]int{w.Line, w.Col}
			if slices.Compare(here[:], last[:]) < 0 || w.Line > len(lines) || w.Col >= len(lines[w.Line-1]) {
				t.Errorf("%q: the word %+v behind %v", text, w, last)
				return
			}
			begin := w.Text
			if last = [2]int{w.Line, w.Col + len(w.Text)}; w.Quoted {
				begin, last = "\"", [2]int{w.Line, w.Col + 2}
			}
			if !strings.HasPrefix(lines[w.Line-1][w.Col:], begin) {
				t.Errorf("%q: no word %+v stands there", text, w)
			}
		}
	}
}

// P11.8
func TestPlaces(t *testing.T) {
	text := "\n  ab:\"c\\\"\\\nd\"e=\\\n\tf"
	wantWrong(t, text, 18)
	text = strings.ReplaceAll(text, "\t", " ")
	wantLines(t, text, line(2, word("ab", 2, 2), mark(":", 2, 4), quoted("c\" d", 2, 5), word("e", 3, 2), mark("=", 3, 3), word("f", 4, 1)))
	l, _ := lex.Lines(text)
	wantPlaces(t, text, l)
	for _, x := range l {
		for _, w := range x.Words {
			at := strings.Index(text, map[bool]string{true: "\"", false: w.Text}[w.Quoted])
			wantPlace(t, text, at, w.Line, w.Col)
		}
	}
}

// R3, R5: what was answered, written over by the caller, changes no later answer, and no other part of it.
func TestAnswersAreNew(t *testing.T) {
	text := "a:b c\n\td \"e\"\nf\n"
	want, _ := lex.Lines(text)
	l, _ := lex.Lines(text)
	for i := range l {
		kept := fmt.Sprint(l[:i], l[i+1:])
		words := l[i].Words
		for j := range words[:cap(words)] {
			words[:cap(words)][j] = mark("over", -1, -1)
		}
		if fmt.Sprint(l[:i], l[i+1:]) != kept {
			t.Errorf("line %d, written over, is in others", i)
		}
	}
	clear(l[:cap(l)])
	wantLines(t, text, want...)
	empty, _ := lex.Lines("")
	_ = append(empty, line(9, word("x", 9, 9)))
	wantLines(t, "")
}

// R3: what is handed in is not changed, the room behind its end neither.
func TestWriteKeepsItsArgument(t *testing.T) {
	words := []api.Word{word("a b", 1, 2), quoted("c", 3, 4), mark("d", 5, 6), word("behind", 7, 8)}
	l := []api.Line{indented(1, words[:3]...), line(2), line(3, words[3])}
	was := fmt.Sprintf("%#v", l) + fmt.Sprintf("%#v", words)
	wantWrite(t, "\t\"a b\" \"c\" d\n\n", l[:2]...)
	if fmt.Sprintf("%#v", l)+fmt.Sprintf("%#v", words) != was {
		t.Error("Write changed what it was handed")
	}
}
