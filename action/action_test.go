package action_test

import (
	"fmt"
	"slices"
	"strings"
	"testing"

	"brickyard/action"
	"brickyard/api"
	"brickyard/lex"
)

func times(n int, s string) string { return strings.Repeat(s, n) }

func stmt(op int, args ...string) api.Stmt { return api.Stmt{Op: op, Args: args} }

func list(l ...api.Stmt) []api.Stmt { return l }

func repeat(n int, body ...api.Stmt) api.Stmt { return api.Stmt{Op: api.OpRepeat, N: n, Body: body} }

func each(w string, body ...api.Stmt) api.Stmt {
	return api.Stmt{Op: api.OpEach, Args: []string{w}, Body: body}
}

func when(v, w string, body ...api.Stmt) api.Stmt {
	return api.Stmt{Op: api.OpWhen, Args: []string{v, w}, Body: body}
}

func upper() api.Stmt { return stmt(api.OpUpper) }

func uppers(n int) []api.Stmt { return slices.Repeat(list(upper()), n) }

// cut is lines written as the chapter's examples are: a / between two lines, a blank between two words.
func cut(s string) [][]string {
	if s == "" {
		return nil
	}
	var out [][]string
	for _, line := range strings.Split(s, "/") {
		out = append(out, strings.Fields(line))
	}
	return out
}

// whole tells all of a list, in which nil and empty lists are one.
func whole(l []api.Stmt) string {
	var b strings.Builder
	for _, s := range l {
		fmt.Fprintf(&b, "(%d %q %d %s)", s.Op, s.Args, s.N, whole(s.Body))
	}
	return b.String()
}

func wantParsed(t *testing.T, lines [][]string, want ...api.Stmt) {
	t.Helper()
	l, spot := action.Parse(lines)
	if whole(l) != whole(want) || spot != (api.Spot{}) {
		t.Errorf("Parse(%.200q): %.300s, %v, want %.300s", lines, whole(l), spot, whole(want))
		return
	}
	wantBack(t, l, lines)
}

func wantWrong(t *testing.T, lines [][]string, e api.Errno, at int) {
	t.Helper()
	if l, spot := action.Parse(lines); len(l) != 0 || spot != (api.Spot{Err: e, At: at}) {
		t.Errorf("Parse(%.200q): %d statements, %v, want %v at %d", lines, len(l), spot, e, at)
	}
}

// P13.3, P13.4: a list that may be, its lines, its text, and what is read of them.
func wantBack(t *testing.T, l []api.Stmt, lines [][]string) {
	t.Helper()
	if !action.May(l) {
		t.Errorf("May(%.300s): false", whole(l))
	}
	if got, e := action.Lines(l); fmt.Sprintf("%q", got) != fmt.Sprintf("%q", lines) || e != api.OK {
		t.Errorf("Lines(%.300s): %.300q, %v, want %.300q", whole(l), got, e, lines)
	}
	if back, spot := action.Parse(lines); spot != (api.Spot{}) || !action.Same(back, l) || whole(back) != whole(l) {
		t.Errorf("Parse(%.300q): %.300s, %v, want %.300s", lines, whole(back), spot, whole(l))
	}
	wantText(t, l, lines)
}

// P13.3, P13.4: the text of a list, and what lex reads of it.
func wantText(t *testing.T, l []api.Stmt, lines [][]string) {
	t.Helper()
	want := ""
	for _, words := range lines {
		var shown []string
		for _, w := range words {
			shown = append(shown, lex.Show(w))
		}
		want += strings.Join(shown, " ") + "\n"
	}
	s, e := action.Print(l)
	if s != want || e != api.OK {
		t.Errorf("Print(%.300s): %.300q, %v, want %.300q", whole(l), s, e, want)
	}
	if len(s) > api.MaxText {
		return
	}
	read, spot := lex.Lines(s)
	var words [][]string
	for _, x := range read {
		var line []string
		for _, w := range x.Words {
			line = append(line, w.Text)
			if w.Mark || x.Indented {
				t.Errorf("%.300q is read with the mark %q, or as indented", s, w.Text)
			}
		}
		words = append(words, line)
	}
	if fmt.Sprintf("%q", words) != fmt.Sprintf("%q", lines) || spot != (api.Spot{}) {
		t.Errorf("%.300q is read as %.300q, %v, want %.300q", s, words, spot, lines)
	}
}

// P13.1: the chapter's examples.
func TestExamples(t *testing.T) {
	wantParsed(t, cut("cat a.c / upper / write a.o"), stmt(api.OpCat, "a.c"), stmt(api.OpUpper), stmt(api.OpWrite, "a.o"))
	wantParsed(t, cut("each list / cat @ / end / write x"), each("list", stmt(api.OpCat, "@")), stmt(api.OpWrite, "x"))
	wantParsed(t, cut("repeat 0 / end"), repeat(0))
	wantParsed(t, nil)
	wantParsed(t, [][]string{})
	for _, s := range []string{"need", "upper x", "when a", "fly", " ", "repeat 01", "repeat 1001", "repeat -1", "repeat"} {
		wantWrong(t, cut(s), 130, 0)
	}
	wantWrong(t, cut("end"), 131, 0)
	wantWrong(t, cut("upper / end"), 131, 1)
	wantWrong(t, cut("repeat 2 / upper"), 131, 2)
	wantWrong(t, slices.Repeat(cut("repeat 1"), 8), 131, 8)
	wantWrong(t, slices.Repeat(cut("repeat 1"), 9), 132, 8)
	wantWrong(t, slices.Repeat(cut("upper"), 257), 3, 256)
	if s, e := action.Print(list(stmt(api.OpText, "a", "a b", ""))); s != "text a \"a b\" \"\"\n" || e != api.OK {
		t.Errorf("Print: %q, %v", s, e)
	}
}

// P13.1: each first word with each number of other words from none to three.
func TestNumberOfWords(t *testing.T) {
	for op, x := range []struct {
		word  string
		takes [4]bool
	}{
		api.OpNeed: {"need", [4]bool{1: true}}, api.OpCat: {"cat", [4]bool{1: true}}, api.OpWrite: {"write", [4]bool{1: true}},
		api.OpText: {"text", [4]bool{true, true, true, true}}, api.OpFail: {"fail", [4]bool{true, true, true, true}},
		api.OpUpper: {"upper", [4]bool{0: true}}, api.OpSort: {"sort", [4]bool{0: true}}, api.OpUniq: {"uniq", [4]bool{0: true}}, api.OpCount: {"count", [4]bool{0: true}},
		api.OpRepeat: {"repeat", [4]bool{1: true}}, api.OpEach: {"each", [4]bool{1: true}}, api.OpWhen: {"when", [4]bool{2: true}},
		0: {"end", [4]bool{0: true}},
	} {
		for n, takes := range x.takes {
			args := []string{"7", "8", "9"}[:n]
			line := append([]string{x.word}, args...)
			want := stmt(op, args...)
			if op == api.OpRepeat {
				want = repeat(7)
			}
			switch {
			case !takes:
				wantWrong(t, [][]string{line}, api.ErrStmt, 0)
				wantWrong(t, [][]string{{"each", "a"}, line, {"end"}}, api.ErrStmt, 1)
				wantWrong(t, [][]string{{"sort"}, line}, api.ErrStmt, 1)
			case op == 0:
				wantWrong(t, [][]string{line}, api.ErrEnd, 0)
				wantParsed(t, [][]string{{"repeat", "7"}, line}, repeat(7))
			case op >= api.OpRepeat:
				wantWrong(t, [][]string{line}, api.ErrEnd, 1)
				wantParsed(t, [][]string{line, {"end"}}, want)
			default:
				wantParsed(t, [][]string{line}, want)
				wantParsed(t, [][]string{{"each", "a"}, line, line, {"end"}}, each("a", want, want))
			}
		}
	}
	many := slices.Repeat([]string{"a"}, 5000)
	wantParsed(t, [][]string{append([]string{"text"}, many...), append([]string{"fail"}, many...)}, stmt(api.OpText, many...), stmt(api.OpFail, many...))
	wantWrong(t, [][]string{append([]string{"when"}, many...)}, api.ErrStmt, 0)
}

// P13.1: first words that are none of the thirteen.
func TestFirstWords(t *testing.T) {
	for _, word := range []string{"need", "cat", "write", "text", "fail", "upper", "sort", "uniq", "count", "repeat", "each", "when", "end"} {
		wrong := []string{strings.ToUpper(word), strings.ToUpper(word[:1]) + word[1:], word + "s", word + " ", " " + word, word + "\n", word + "\x00", word[1:], word[:len(word)-1], word + word, "\"" + word + "\""}
		for i := range word {
			wrong = append(wrong, word[:i]+string(word[i]^1)+word[i+1:])
		}
		for _, w := range wrong {
			for n := range 4 {
				line := append([]string{w}, []string{"1", "1", "1"}[:n]...)
				wantWrong(t, [][]string{line}, api.ErrStmt, 0)
				wantWrong(t, [][]string{{"repeat", "1"}, {"upper"}, line, {"end"}}, api.ErrStmt, 2)
			}
		}
	}
	for _, w := range []string{"", " ", "\n", "\x00", "\xff", ":", "=", "#", "fly", "rule", "let", "1", "needs", "é"} {
		for n := range 4 {
			wantWrong(t, [][]string{append([]string{w}, []string{"a", "b", "c"}[:n]...)}, api.ErrStmt, 0)
		}
	}
	for _, line := range [][]string{nil, {}} {
		wantWrong(t, [][]string{line}, api.ErrStmt, 0)
		wantWrong(t, [][]string{{"upper"}, line}, api.ErrStmt, 1)
		wantWrong(t, [][]string{{"repeat", "1"}, line, {"end"}}, api.ErrStmt, 1)
		wantWrong(t, [][]string{{"repeat", "1"}, {"end"}, line}, api.ErrStmt, 2)
	}
}

// P13.1: a repeat's number, in one form alone.
func TestNumbers(t *testing.T) {
	for n := range 1001 {
		wantParsed(t, [][]string{{"repeat", fmt.Sprint(n)}, {"end"}}, repeat(n))
	}
	for n := 1001; n < 10100; n++ {
		wantWrong(t, [][]string{{"repeat", fmt.Sprint(n)}, {"end"}}, api.ErrStmt, 0)
	}
	for n := range 1002 {
		wantWrong(t, [][]string{{"repeat", "0" + fmt.Sprint(n)}, {"end"}}, api.ErrStmt, 0)
		wantWrong(t, [][]string{{"repeat", fmt.Sprint(-n - 1)}, {"end"}}, api.ErrStmt, 0)
	}
	for _, s := range []string{
		"", " ", "00", "01", "0000", "00000", "01000", "+0", "+1", "-0", "-1", "--1", "- 1", " 1", "1 ", "1 0", "\t1", "1\n", "1\x00", "1\xff", "a", "1a", "a1", "0x1", "0b1", "1e2", "1_0", "1_000", "1,000", "1.0", "1.", ".1", "one", "@", "$(N)",
		"65536", "65537", "99999", "10000", "4294967296", "4294967297", "18446744073709551616", "18446744073709551617", "9223372036854775807", "9223372036854775808", times(40, "0"), times(5000, "1"), times(40, "0") + "1", "\u0661", "\uff11", "\"1\"", "/", ":", "0/", "9:",
	} {
		wantWrong(t, [][]string{{"repeat", s}, {"end"}}, api.ErrStmt, 0)
		wantWrong(t, [][]string{{"repeat", s}}, api.ErrStmt, 0)
		wantWrong(t, [][]string{{"repeat", s, "1"}, {"end"}}, api.ErrStmt, 0)
		wantWrong(t, [][]string{{"repeat", "1", s}, {"end"}}, api.ErrStmt, 0)
	}
}

// P13.1: the words of a line are any texts.
func TestAnyWords(t *testing.T) {
	for _, w := range []string{"", " ", "a b", "\"", "\"a\"", "\\", "\\n", ":", "=", "#", "a:b", "\n", "\t", "\x00", "\xff", "é", "@", "%", "$(X)", "end", "upper", "../x", times(300, "a"), times(40000, "a"), "\x7f", "a\nend\n"} {
		wantParsed(t, [][]string{{"need", w}, {"cat", w}, {"write", w}, {"text", w}, {"fail", w, w}}, stmt(api.OpNeed, w), stmt(api.OpCat, w), stmt(api.OpWrite, w), stmt(api.OpText, w), stmt(api.OpFail, w, w))
		wantParsed(t, [][]string{{"each", w}, {"when", w, "a"}, {"text", "", w, ""}, {"end"}, {"when", "", w}, {"end"}, {"end"}}, each(w, when(w, "a", stmt(api.OpText, "", w, "")), when("", w)))
		wantWrong(t, [][]string{{"upper", w}}, api.ErrStmt, 0)
		wantWrong(t, [][]string{{"repeat", "1"}, {"end", w}}, api.ErrStmt, 1)
	}
}

// P13.1: an end where no body is open.
func TestEndsTooMany(t *testing.T) {
	for _, s := range []string{"upper", "text", "text end", "fail a b", "repeat 0 / end", "each a / end", "when a b / upper / end", "upper / sort / uniq", "repeat 1 / each a / when b c / end / end / end", "repeat 1 / end / repeat 1 / end"} {
		lines := cut(s)
		n := len(lines)
		wantWrong(t, append(lines, []string{"end"}), api.ErrEnd, n)
		wantWrong(t, append(cut(s+"/ end"), []string{"upper"}, []string{"fly"}), api.ErrEnd, n)
		wantWrong(t, cut("end /"+s), api.ErrEnd, 0)
		wantWrong(t, cut(s+"/ end / end"), api.ErrEnd, n)
	}
	wantWrong(t, slices.Repeat(cut("end"), 300), api.ErrEnd, 0)
}

// P13.1: bodies that are empty, in one another, behind one another.
func TestBodies(t *testing.T) {
	wantParsed(t, cut("repeat 3 / end / each a / end / when a b / end"), repeat(3), each("a"), when("a", "b"))
	wantParsed(t, cut("repeat 3 / each a / when a b / end / end / end"), repeat(3, each("a", when("a", "b"))))
	wantParsed(t, cut("repeat 1 / upper / end / upper"), repeat(1, upper()), upper())
	wantParsed(t, cut("repeat 1 / upper / upper / end"), repeat(1, upper(), upper()))
	wantParsed(t, cut("upper / repeat 1 / end / upper"), upper(), repeat(1), upper())
	wantParsed(t, cut("repeat 1 / repeat 2 / end / repeat 3 / sort / end / count / end / uniq"), repeat(1, repeat(2), repeat(3, stmt(api.OpSort)), stmt(api.OpCount)), stmt(api.OpUniq))
	wantParsed(t, cut("each end / when end end / text end / end / need end / end"), each("end", when("end", "end", stmt(api.OpText, "end")), stmt(api.OpNeed, "end")))
	wantParsed(t, cut("repeat 1 / each a / upper / end / sort / end / when b c / repeat 2 / repeat 4 / end / end / fail / end"),
		repeat(1, each("a", upper()), stmt(api.OpSort)), when("b", "c", repeat(2, repeat(4)), stmt(api.OpFail)))
}

// P13.1: bodies that are not ended.
func TestEndsMissing(t *testing.T) {
	for _, s := range []string{
		"repeat 1", "each a", "when a b", "repeat 1 / upper", "upper / repeat 1", "repeat 1 / end / each a", "repeat 1 / each a / end", "repeat 1 / each a / when a b", "repeat 1 / each a / when a b / end", "repeat 1 / each a / when a b / end / end",
		"repeat 1 / upper / repeat 2 / upper / end / upper", "repeat 1 / text end", "each end", "when a end", "when end end / when end end / end / text / fail",
	} {
		lines := cut(s)
		wantWrong(t, lines, api.ErrEnd, len(lines))
	}
	for n := 1; n < 9; n++ {
		wantWrong(t, slices.Repeat(cut("each a"), n), api.ErrEnd, n)
		wantWrong(t, slices.Concat(slices.Repeat(cut("each a"), n), slices.Repeat(cut("end"), n-1)), api.ErrEnd, 2*n-1)
	}
}

// P13.1: 256 and 257 statements.
func TestManyStatements(t *testing.T) {
	ups := func(n int) [][]string { return slices.Repeat(cut("upper"), n) }
	wantParsed(t, ups(255), uppers(255)...)
	wantParsed(t, ups(256), uppers(256)...)
	wantWrong(t, ups(257), api.ErrLong, 256)
	wantWrong(t, ups(5000), api.ErrLong, 256)
	wantWrong(t, append(ups(256), nil), api.ErrStmt, 256)
	wantWrong(t, append(ups(256), []string{"end"}), api.ErrEnd, 256)
	empty := slices.Repeat(cut("each a / end"), 256)
	wantParsed(t, empty, slices.Repeat(list(each("a")), 256)...)
	wantWrong(t, append(empty, []string{"each", "a"}), api.ErrLong, 512)
	wantWrong(t, append(empty, []string{"text"}), api.ErrLong, 512)
	wantParsed(t, slices.Concat(cut("repeat 1"), ups(255), cut("end")), repeat(1, uppers(255)...))
	wantWrong(t, slices.Concat(cut("repeat 1"), ups(256), cut("end")), api.ErrLong, 256)
	wantWrong(t, slices.Concat(cut("repeat 1"), ups(255), cut("end / upper")), api.ErrLong, 257)
	wantParsed(t, slices.Concat(cut("repeat 1"), ups(100), cut("end / when a b"), ups(100), cut("end"), ups(54)), append(list(repeat(1, uppers(100)...), when("a", "b", uppers(100)...)), uppers(54)...)...)
	wantWrong(t, slices.Concat(cut("repeat 1"), ups(100), cut("end / when a b"), ups(100), cut("end"), ups(55)), api.ErrLong, 258)
	wantWrong(t, slices.Concat(cut("repeat 1"), ups(255)), api.ErrEnd, 256)
	deep := slices.Concat(slices.Repeat(cut("repeat 1"), 8), ups(248), slices.Repeat(cut("end"), 8))
	if l, spot := action.Parse(deep); spot != (api.Spot{}) || action.Size(l) != 256 || action.Deep(l) != 8 {
		t.Errorf("%d statements, %v", action.Size(l), spot)
	}
	wantWrong(t, slices.Insert(slices.Clone(deep), 8, []string{"sort"}), api.ErrLong, 256)
}

// P13.1: 8 and 9 bodies, each of the three kinds.
func TestDeepBodies(t *testing.T) {
	makers := map[string]func(body ...api.Stmt) api.Stmt{
		"repeat 9": func(body ...api.Stmt) api.Stmt { return repeat(9, body...) },
		"each a":   func(body ...api.Stmt) api.Stmt { return each("a", body...) },
		"when b c": func(body ...api.Stmt) api.Stmt { return when("b", "c", body...) },
	}
	for outer, make := range makers {
		eight := slices.Repeat(cut(outer), 8)
		ends := slices.Repeat(cut("end"), 8)
		var want []api.Stmt
		for range 8 {
			want = list(make(want...))
		}
		wantParsed(t, slices.Concat(eight, ends), want...)
		wantParsed(t, slices.Concat(eight, ends, cut("upper"), eight, ends), slices.Concat(want, list(upper()), want)...)
		wantParsed(t, slices.Concat(eight, ends[:1], cut(outer+"/ sort / end"), ends[:7]), nested(7, make, make(), make(stmt(api.OpSort)))...)
		wantWrong(t, slices.Concat(eight, cut("sort"), ends[:7]), api.ErrEnd, 16)
		for inner := range makers {
			wantWrong(t, slices.Concat(eight, cut(inner), ends, cut("end")), api.ErrDeep, 8)
			wantWrong(t, slices.Concat(eight, cut("upper / upper"), cut(inner), cut("fly")), api.ErrDeep, 10)
			wantWrong(t, slices.Concat(eight, ends, eight, cut(inner)), api.ErrDeep, 24)
			wantWrong(t, slices.Concat(eight, ends[:1], cut(inner), cut(inner)), api.ErrDeep, 10)
		}
	}
}

func nested(n int, make func(body ...api.Stmt) api.Stmt, body ...api.Stmt) []api.Stmt {
	for range n {
		body = list(make(body...))
	}
	return body
}

// P13.1: of two errors the one in the upper line; in a line the one that the chapter names first.
func TestTwoErrors(t *testing.T) {
	wantWrong(t, cut("fly / end"), api.ErrStmt, 0)
	wantWrong(t, cut("end / fly"), api.ErrEnd, 0)
	wantWrong(t, cut("repeat 1 / fly"), api.ErrStmt, 1)
	wantWrong(t, cut("repeat 1001 / end"), api.ErrStmt, 0)
	wantWrong(t, cut("repeat / end"), api.ErrStmt, 0)
	wantWrong(t, cut("end x"), api.ErrStmt, 0)
	wantWrong(t, cut("upper / end x / end"), api.ErrStmt, 1)
	wantWrong(t, cut("upper / end / end x"), api.ErrEnd, 1)
	eight := slices.Repeat(cut("repeat 1"), 8)
	wantWrong(t, slices.Concat(eight, cut("repeat 01 / repeat 1")), api.ErrStmt, 8)
	wantWrong(t, slices.Concat(eight, cut("when a / repeat 1")), api.ErrStmt, 8)
	wantWrong(t, slices.Concat(eight, cut("repeat 1 / fly")), api.ErrDeep, 8)
	wantWrong(t, slices.Concat(eight, cut("upper / fly / repeat 1")), api.ErrStmt, 9)
	ups := slices.Repeat(cut("upper"), 248)
	wantWrong(t, slices.Concat(eight, ups, cut("repeat 1")), api.ErrLong, 256)
	wantWrong(t, slices.Concat(eight, ups, cut("repeat 01")), api.ErrStmt, 256)
	wantWrong(t, slices.Concat(eight, ups, cut("upper")), api.ErrLong, 256)
	wantWrong(t, slices.Concat(eight, ups[:247], cut("repeat 1 / upper")), api.ErrDeep, 255)
	wantWrong(t, slices.Concat(eight, ups, slices.Repeat(cut("end"), 9)), api.ErrEnd, 264)
	wantWrong(t, slices.Concat(eight, ups, slices.Repeat(cut("end"), 8), cut("end x")), api.ErrStmt, 264)
	wantWrong(t, slices.Concat(eight, ups, slices.Repeat(cut("end"), 7)), api.ErrEnd, 263)
	wantWrong(t, slices.Concat(ups, slices.Repeat(cut("sort"), 9), cut("fly")), api.ErrLong, 256)
}

// P13.5
func TestBehindAndAround(t *testing.T) {
	texts := []string{"", "upper", "text a b / repeat 2 / sort / end", "each a / end", "when a b / each c / repeat 3 / fail / end / end / end", "repeat 0 / repeat 1 / end / repeat 2 / end / end / count"}
	for _, a := range texts {
		x, _ := action.Parse(cut(a))
		for _, b := range texts {
			y, _ := action.Parse(cut(b))
			wantParsed(t, slices.Concat(cut(a), cut(b)), slices.Concat(x, y)...)
		}
		for _, n := range []int{0, 1, 10, 1000} {
			wantParsed(t, slices.Concat([][]string{{"repeat", fmt.Sprint(n)}}, cut(a), cut("end")), repeat(n, x...))
		}
	}
}

// P13.6
func wantBeginnings(t *testing.T, lines [][]string) {
	t.Helper()
	open := 0
	for n, line := range lines {
		l, spot := action.Parse(lines[:n])
		if open > 0 && (len(l) != 0 || spot != (api.Spot{Err: api.ErrEnd, At: n})) || open == 0 && (!action.May(l) || spot != (api.Spot{})) {
			t.Errorf("Parse(%.200q): %d statements, %v, with %d open bodies", lines[:n], len(l), spot, open)
		}
		switch line[0] {
		case "repeat", "each", "when":
			open++
		case "end":
			open--
		}
	}
}

// P13.6
func TestBeginnings(t *testing.T) {
	wantBeginnings(t, cut("upper / text a b / repeat 2 / sort / each a / end / when b c / end / end / count / each d / end"))
	wantBeginnings(t, slices.Repeat(cut("upper"), 256))
	wantBeginnings(t, slices.Concat(slices.Repeat(cut("repeat 1"), 8), slices.Repeat(cut("upper"), 248), slices.Repeat(cut("end"), 8)))
}

// R3, R5: what was handed in is not changed, and not kept; what was answered, written over, changes no later answer, and no other part of it.
func TestAnswersAreNew(t *testing.T) {
	text := "text a b c / need d / upper / repeat 2 / each e / fail / fail f g / end / when h i / end / end / text / write j"
	lines := cut(text)
	for i, line := range lines {
		lines[i] = append(line, "behind", "behind")[:len(line)]
	}
	was := fmt.Sprintf("%q", behinds(lines))
	l, spot := action.Parse(lines)
	if spot != (api.Spot{}) || fmt.Sprintf("%q", behinds(lines)) != was {
		t.Errorf("Parse: %v; the lines are %q", spot, lines)
	}
	told := whole(l)
	for i := range lines {
		clearWords(lines[i])
	}
	clear(lines)
	if whole(l) != told {
		t.Errorf("the statements hang on what was handed in: %s", whole(l))
	}
	wantParsed(t, cut(text), l...)
	overwrite(t, &l, &l)
	again, _ := action.Parse(cut(text))
	if whole(again) != told {
		t.Errorf("Parse behind the writing over: %s", whole(again))
	}
}

func behinds(lines [][]string) [][]string {
	var out [][]string
	for _, line := range lines {
		out = append(out, line[:cap(line)])
	}
	return out
}

func clearWords(words []string) { clear(words[:cap(words)]) }

// overwrite writes over a part of an answer, list by list, and over the room behind each list's end: nothing else of the whole may change.
func overwrite(t *testing.T, all, part *[]api.Stmt) {
	t.Helper()
	for i := range *part {
		s := &(*part)[i]
		overwrite(t, all, &s.Body)
		words := s.Args
		s.Args = nil
		kept := whole(*all)
		clearWords(words)
		if whole(*all) != kept {
			t.Errorf("the words %q, written over, are in others", words)
		}
	}
	l := *part
	*part = nil
	kept := whole(*all)
	clear(l[:cap(l)])
	if whole(*all) != kept {
		t.Errorf("a list of %d statements, written over, is in others", len(l))
	}
}
