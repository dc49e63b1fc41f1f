package rules_test

import (
	"fmt"
	"math/rand"
	"reflect"
	"regexp"
	"strings"
	"testing"

	"brickyard/api"
	"brickyard/lex"
	"brickyard/rules"
)

// kindOf is what matters of a word to an item's line, as one letter: a mark's own text; l, i, r for the three first words; N for a name, w for any other.
func kindOf(x api.Word) string {
	switch first := map[string]string{"let": "l", "include": "i", "rule": "r"}[x.Text]; {
	case x.Mark:
		return x.Text
	case x.Quoted:
		return "w"
	case first != "":
		return first
	case isName(x.Text):
		return "N"
	}
	return "w"
}

// wholeItem is the lines that are items; begunItem is all that they can begin with.
var (
	wholeItem = regexp.MustCompile("^(lN=[lirNw]*|i[lirNw]|r[lirNw]+:[lirNw]*)$")
	begunItem = regexp.MustCompile("^(l|lN|lN=[lirNw]*|i|i[lirNw]|r[lirNw]*|r[lirNw]+:[lirNw]*)$")
)

// wrongWord is the number of the first word with which a line can not go on as an item, or that of the last one, if the line ends too early; below 0, if it is an item.
func wrongWord(line []api.Word) int {
	said := ""
	for i, x := range line {
		if said += kindOf(x); !begunItem.MatchString(said) {
			return i
		}
	}
	if wholeItem.MatchString(said) {
		return -1
	}
	return len(line) - 1
}

// said is an item by what its line says: the words ahead of the mark, and those behind it.
func said(l api.Line) api.RuleItem {
	var ahead, behind []api.Word
	marks := 0
	for _, x := range l.Words[1:] {
		switch {
		case x.Mark:
			marks++
		case marks == 0:
			ahead = append(ahead, x)
		default:
			behind = append(behind, x)
		}
	}
	switch l.Words[0].Text {
	case "let":
		return let(l.Number, ahead[0].Text, behind...)
	case "include":
		return include(l.Number, ahead[0])
	}
	return rule(l.Number, ahead, behind)
}

// parseByWords is what the chapter's words say of a text.
func parseByWords(text string) ([]api.RuleItem, api.Where) {
	lines, spot := lex.Lines(text)
	if spot != (api.Spot{}) {
		ahead := text[:spot.At]
		return nil, api.Where{Err: spot.Err, Line: 1 + strings.Count(ahead, "\n"), Col: len(ahead) - 1 - strings.LastIndex(ahead, "\n")}
	}
	var out []api.RuleItem
	for _, l := range lines {
		if l.Indented && len(out) > 0 && out[len(out)-1].Kind == api.ItemRule {
			out[len(out)-1].Code = append(out[len(out)-1].Code, l)
			continue
		}
		at, e := wrongWord(l.Words), api.ErrItem
		if l.Indented {
			at = 0
		} else if at == 1 && kindOf(l.Words[0]) == "l" && kindOf(l.Words[1]) != "N" {
			e = api.ErrVar
		}
		if at >= 0 {
			return nil, api.Where{Err: e, Line: l.Words[at].Line, Col: l.Words[at].Col}
		}
		out = append(out, said(l))
	}
	return out, api.Where{}
}

// wantAsWords holds a text against the words, and against what follows of them.
func wantAsWords(t *testing.T, text string) {
	t.Helper()
	want, where := parseByWords(text)
	l, w := rules.Parse(text)
	if whole(l) != whole(want) || w != where {
		t.Errorf("Parse(%.300q): %s, %v, want %s, %v", text, whole(l), w, whole(want), where)
	}
	wantPlaces(t, text)
	if w == (api.Where{}) {
		wantBack(t, l)
	}
}

// P12.5: what Parse answers may be, and is read again from what Print tells.
func wantBack(t *testing.T, l []api.RuleItem) {
	t.Helper()
	s, e := rules.Print(l)
	if !rules.May(l) || e != api.OK {
		t.Errorf("May(%s): %v, Print: %v", whole(l), rules.May(l), e)
	}
	if s != writtenByWords(l) {
		t.Errorf("Print(%s): %q, want %q", whole(l), s, writtenByWords(l))
	}
	if len(s) > api.MaxText {
		return
	}
	back, w := rules.Parse(s)
	again, _ := rules.Print(back)
	if w != (api.Where{}) || !rules.Same(back, l) || !sameByWords(back, l) || again != s {
		t.Errorf("%s, printed as %q: %s, %v, printed as %q", whole(l), s, whole(back), w, again)
	}
}

// writtenByWords is the text of any items, each word by itself.
func writtenByWords(l []api.RuleItem) string {
	var b strings.Builder
	tell := func(first string, lists ...[]api.Word) {
		b.WriteString(first)
		for _, list := range lists {
			for _, x := range list {
				b.WriteString(" " + strings.TrimSuffix(lex.Write([]api.Line{{Words: words(x)}}), "\n"))
			}
		}
		b.WriteString("\n")
	}
	for _, x := range l {
		switch x.Kind {
		case api.ItemLet:
			tell("let", words(w(x.Name), m("=")), x.Words)
		case api.ItemInclude:
			tell("include", x.Words)
		case api.ItemRule:
			tell("rule", x.Targets, words(m(":")), x.Words)
		}
		b.WriteString(lex.Write(x.Code))
	}
	return b.String()
}

// stripped is items without numbers and places, and with nil for each list that has nothing.
func stripped(l []api.RuleItem) []api.RuleItem {
	var out []api.RuleItem
	for _, x := range l {
		y := api.RuleItem{Kind: x.Kind, Name: x.Name, Targets: strippedWords(x.Targets), Words: strippedWords(x.Words)}
		for _, c := range x.Code {
			y.Code = append(y.Code, api.Line{Words: strippedWords(c.Words)})
		}
		out = append(out, y)
	}
	return out
}

func strippedWords(list []api.Word) []api.Word {
	var out []api.Word
	for _, x := range list {
		out = append(out, api.Word{Text: x.Text, Quoted: x.Quoted, Mark: x.Mark})
	}
	return out
}

func sameByWords(a, b []api.RuleItem) bool { return reflect.DeepEqual(stripped(a), stripped(b)) }

// mayByReading: a list may be just if what is written of it says the same list again, its code indented.
func mayByReading(l []api.RuleItem) bool {
	back, w := parseByWords(writtenByWords(l))
	for _, x := range l {
		for _, c := range x.Code {
			if !c.Indented {
				return false
			}
		}
	}
	return w == (api.Where{}) && sameByWords(back, l)
}

// mayByWords is what the chapter's words say.
func mayByWords(l []api.RuleItem) bool {
	may := true
	for _, x := range l {
		isLet, isInclude, isRule := x.Kind == 1, x.Kind == 2, x.Kind == 3
		may = may && (isLet || isInclude || isRule)
		may = may && isLet == isName(x.Name) && (isLet || x.Name == "")
		may = may && isRule == (len(x.Targets) > 0) && (isRule || len(x.Code) == 0)
		may = may && (!isInclude || len(x.Words) == 1)
		for _, y := range append(strippedWords(x.Targets), x.Words...) {
			may = may && !y.Mark && (y.Quoted || lex.Plain(y.Text))
		}
		for _, c := range x.Code {
			may = may && c.Indented && len(c.Words) > 0
			for _, y := range c.Words {
				isMark := y.Mark && !y.Quoted && (y.Text == ":" || y.Text == "=")
				may = may && (isMark || !y.Mark && (y.Quoted || lex.Plain(y.Text)))
			}
		}
	}
	return may
}

func linePieces() []string {
	return []string{"let X = 1\n", "let Y_2=\n", "let Z = a \"b c\" \"\"\n", "include a/b\n", "include \"c\"\n", "rule a :\n", "rule a b : c \"d\"\n", "rule \"e\":f\n", "rule a :\n\tb\n", "\tc : d\n", "\t\"e\" =\n", "\tlet x\n", "\n", "# c\n", "\t\n", " \\\n", "let \\\nX = \\\n 1\n", "#\\\nx\n"}
}

func wordPieces() []string {
	return []string{"let ", "let ", "include ", "rule ", "rule ", "X ", "YY ", "x ", "\"X\" ", "\"let\" ", ": ", ": ", "= ", "= ", "a ", "b", "\n", "\n", "\n\t", "# c\n", " \\\n", "\"\" "}
}

func wrongPieces() []string {
	return append(append(linePieces(), wordPieces()...), "\"", "\\", "\t", "\xff", "x\n", "\tx\n", "let X\n", "let x = 1\n", "rule : a\n", "include a b\n")
}

// randomText is of pieces, of which some are wrong in some places.
func randomText(r *rand.Rand, pieces []string, n int) string {
	var b strings.Builder
	for range r.Intn(n) {
		b.WriteString(pieces[r.Intn(len(pieces))])
	}
	return b.String()
}

// P12.2, P12.5, P12.6, P12.7: long rows of random texts.
func TestModel(t *testing.T) {
	for seed := range int64(36) {
		t.Run(fmt.Sprint("seed ", seed), func(t *testing.T) {
			t.Parallel()
			r := rand.New(rand.NewSource(seed))
			pieces := [][]string{linePieces(), wordPieces(), wrongPieces()}[seed%3]
			long := []int{5, 9, 20, 60}[seed/3%4]
			last, right := "", 0
			for range 3000 {
				text := randomText(r, pieces, long)
				wantAsWords(t, text)
				wantBoth(t, last, text)
				last = text
				if _, w := rules.Parse(text); w == (api.Where{}) {
					right++
				}
				if t.Failed() {
					t.FailNow()
				}
			}
			if right < 20 || right > 2990 {
				t.Errorf("%d texts of 3000 are right", right)
			}
		})
	}
}

// P12.2: all lines of few words.
func TestAllShortLines(t *testing.T) {
	list := []string{"let", "include", "rule", "X", "x", "\"X\"", "\"let\"", ":", "="}
	texts := []string{""}
	for range 5 {
		var next []string
		for _, s := range texts {
			wantAsWords(t, s)
			if len(s) < 16 {
				wantAsWords(t, "\t"+s)
				wantAsWords(t, "rule a :\n\t"+s+"\n"+s)
				wantAsWords(t, "let X = 1\n\t"+s)
			}
			for _, c := range list {
				next = append(next, s+" "+c)
			}
		}
		if texts = next; t.Failed() {
			t.FailNow()
		}
	}
}

// P12.2: long random texts, about as long as they may be.
func TestLongRandomTexts(t *testing.T) {
	for seed := range int64(8) {
		t.Run(fmt.Sprint("seed ", seed), func(t *testing.T) {
			t.Parallel()
			r := rand.New(rand.NewSource(seed))
			var b strings.Builder
			for pieces := linePieces(); b.Len() < 32700; {
				piece := pieces[r.Intn(len(pieces))]
				if strings.HasPrefix(piece, "\tc") || strings.HasPrefix(piece, "\tl") {
					piece = "rule a :\n" + piece + piece // indented lines would be wrong behind most others
				} else if strings.HasPrefix(piece, "\t\"") || piece == " \\\n" {
					continue
				}
				b.WriteString(piece)
			}
			text := b.String() + times(99, "\n")
			if _, w := rules.Parse(text[:32768]); w != (api.Where{}) {
				t.Errorf("it is wrong: %v", w)
			}
			for _, n := range []int{32767, 32768, 32769} {
				wantAsWords(t, text[:n])
				wantAsWords(t, text[:n-3]+"\n\tx")
				wantAsWords(t, text[9:n]+times(9, "z"))
			}
		})
	}
}

func randomWord(r *rand.Rand) api.Word {
	texts := []string{"a", "b", "a", "$(X)", "let", "", ":", "=", "a b", "\n", "\xff", "\""}
	x := api.Word{Text: texts[r.Intn(len(texts))], Line: r.Intn(9) - 3, Col: r.Intn(9) - 3}
	if x.Quoted = !lex.Plain(x.Text); r.Intn(3) == 0 {
		x.Quoted = true
	}
	switch r.Intn(90) {
	case 0:
		x.Quoted = false
	case 1:
		x.Mark = true
	case 2:
		x.Text, x.Mark, x.Quoted = ":", true, false
	}
	return x
}

func randomWords(r *rand.Rand, n int) []api.Word {
	var out []api.Word
	for range n {
		out = append(out, randomWord(r))
	}
	return out
}

func randomCode(r *rand.Rand) []api.Line {
	var out []api.Line
	for range r.Intn(3) {
		l := code(r.Intn(99), randomWords(r, 1+r.Intn(3))...)
		if r.Intn(2) == 0 {
			l.Words = append(l.Words, m([]string{":", "="}[r.Intn(2)]))
		}
		switch r.Intn(60) {
		case 0:
			l.Indented = false
		case 1:
			l.Words = nil
		}
		out = append(out, l)
	}
	return out
}

// randomItem is one that may be, most times.
func randomItem(r *rand.Rand) api.RuleItem {
	names := []string{"X", "Y", "CC_2", "ABCDEFGHIJKLMNOP"}
	x := api.RuleItem{Kind: 1 + r.Intn(3), Line: r.Intn(99) - 9}
	switch x.Kind {
	case api.ItemLet:
		x.Name, x.Words = names[r.Intn(len(names))], randomWords(r, r.Intn(4))
	case api.ItemInclude:
		x.Words = randomWords(r, 1)
	case api.ItemRule:
		x.Targets, x.Words, x.Code = randomWords(r, 1+r.Intn(2)), randomWords(r, r.Intn(3)), randomCode(r)
	}
	switch r.Intn(120) {
	case 0:
		x.Kind = r.Intn(7) - 2
	case 1:
		x.Name = []string{"", "X", "x", "ABCDEFGHIJKLMNOPQ"}[r.Intn(4)]
	case 2:
		x.Targets = randomWords(r, r.Intn(2))
	case 3:
		x.Words = randomWords(r, r.Intn(3))
	case 4:
		x.Code = randomCode(r)
	}
	return x
}

func randomItems(r *rand.Rand, n int) []api.RuleItem {
	var out []api.RuleItem
	for range r.Intn(n) {
		out = append(out, randomItem(r))
	}
	return out
}

// altered is the list with one thing changed, or none.
func altered(r *rand.Rand, l []api.RuleItem) []api.RuleItem {
	out := stripped(l)
	if len(out) == 0 {
		return out
	}
	x := &out[r.Intn(len(out))]
	lists := []*[]api.Word{&x.Targets, &x.Words}
	for i := range x.Code {
		x.Code[i].Indented = r.Intn(9) > 0
		lists = append(lists, &x.Code[i].Words)
	}
	list := lists[r.Intn(len(lists))]
	switch r.Intn(8) {
	case 0:
		x.Kind = 1 + r.Intn(3)
	case 1:
		x.Name = []string{"X", "Y", x.Name}[r.Intn(3)]
	case 2:
		*list = append(*list, randomWord(r))
	case 3:
		*list = (*list)[:len(*list)/2]
	case 4:
		if len(*list) > 0 {
			(*list)[r.Intn(len(*list))] = randomWord(r)
		}
	case 5:
		x.Code = append(x.Code, randomCode(r)...)
	}
	return out
}

// P12.3, P12.4, P12.5: long rows of random lists.
func TestModelOfLists(t *testing.T) {
	for seed := range int64(16) {
		t.Run(fmt.Sprint("seed ", seed), func(t *testing.T) {
			t.Parallel()
			r := rand.New(rand.NewSource(seed))
			var counts [2]int
			var sames int
			last := []api.RuleItem{}
			for range 4000 {
				l := randomItems(r, 2+int(seed)%6)
				may := mayByWords(l)
				if may != mayByReading(l) || may != rules.May(l) {
					t.Fatalf("May(%s): %v, by the words %v, by reading %v", whole(l), rules.May(l), may, mayByReading(l))
				}
				if may {
					wantBack(t, l)
					counts[0]++
				} else {
					counts[1]++
					if s, e := rules.Print(l); s != "" || e != api.ErrArg {
						t.Fatalf("Print(%s): %q, %v", whole(l), s, e)
					}
				}
				for _, other := range [][]api.RuleItem{last, altered(r, l), stripped(l)} {
					is := sameByWords(l, other)
					if wantSame(t, is, l, other); is {
						sames++
					}
				}
				if last = l; t.Failed() {
					t.FailNow()
				}
			}
			if counts[0] < 400 || counts[1] < 100 || sames < 4000 {
				t.Errorf("%d lists may be, %d may not, %d are the same", counts[0], counts[1], sames)
			}
		})
	}
}
