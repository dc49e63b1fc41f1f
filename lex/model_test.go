package lex_test

import (
	"fmt"
	"math/rand"
	"strings"
	"testing"

	"brickyard/api"
	"brickyard/lex"
)

// joined is what a join counts as, beside the bytes.
const joined = 256

// unit is a byte of a text, or a join, and where it stands.
type unit struct{ what, at int }

// units is a text as its bytes and joins.
func units(text string) []unit {
	var out []unit
	for at := 0; at < len(text); at++ {
		if strings.HasPrefix(text[at:], "\\\n") {
			out = append(out, unit{joined, at})
			at++
		} else {
			out = append(out, unit{int(text[at]), at})
		}
	}
	return out
}

// logicals is the units between the byte 10 that are in no join.
func logicals(u []unit) [][]unit {
	out := [][]unit{nil}
	for _, x := range u {
		if x.what == '\n' {
			out = append(out, nil)
		} else {
			out[len(out)-1] = append(out[len(out)-1], x)
		}
	}
	return out
}

// linesByWords is what the chapter's words say of a text: each logical line is cut by itself.
func linesByWords(text string) ([]api.Line, api.Spot) {
	if len(text) > 32768 {
		return nil, api.Spot{Err: api.ErrLong, At: 32768}
	}
	var out []api.Line
	for _, u := range logicals(units(text)) {
		if len(u) == 0 {
			continue
		}
		l := api.Line{Number: 1 + strings.Count(text[:u[0].at], "\n")}
		if u[0].what == '\t' {
			l.Indented = true
			u = u[1:]
		}
		words, at := cut(text, u)
		if at >= 0 {
			return nil, api.Spot{Err: api.ErrText, At: at}
		}
		if l.Words = words; len(words) > 0 {
			out = append(out, l)
		}
	}
	return out, api.Spot{}
}

// cut answers the words of a logical line, or the place where it goes wrong, which is below 0 if it does not.
func cut(text string, u []unit) ([]api.Word, int) {
	var out []api.Word
	for len(u) > 0 {
		at := u[0].at
		w := api.Word{Line: 1 + strings.Count(text[:at], "\n"), Col: at - 1 - strings.LastIndex(text[:at], "\n")}
		n := 1
		switch c := u[0].what; {
		case c == ' ' || c == joined:
			u = u[1:]
			continue
		case c == '#':
			return out, -1
		case c == ':' || c == '=':
			w.Text, w.Mark = text[at:at+1], true
		case c == '"':
			told, length, wrong := unquote(u)
			if wrong >= 0 {
				return nil, wrong
			}
			w.Text, w.Quoted, n = told, true, length
		case isBare(c):
			for n < len(u) && isBare(u[n].what) {
				n++
			}
			w.Text = text[at : at+n]
		default:
			return nil, at
		}
		out = append(out, w)
		u = u[n:]
	}
	return out, -1
}

// unquote answers what a quoted word tells, and of how many units it is; or the place where it goes wrong.
func unquote(u []unit) (string, int, int) {
	told := ""
	for i := 1; i < len(u); i++ {
		switch c := u[i].what; c {
		case '"':
			return told, i + 1, -1
		case joined:
			told += " "
		case '\\':
			if i++; i == len(u) {
				return "", 0, u[i-1].at
			}
			k := -1
			if u[i].what != joined {
				k = strings.IndexByte("\"\\nt", byte(u[i].what))
			}
			if k < 0 {
				return "", 0, u[i-1].at
			}
			told += "\"\\\n\t"[k : k+1]
		default:
			told += string([]byte{byte(c)})
		}
	}
	return "", 0, u[0].at
}

// randomText is of pieces, of which some are wrong in some places.
func randomText(r *rand.Rand, pieces []string, n int) string {
	var b strings.Builder
	for range r.Intn(n) {
		b.WriteString(pieces[r.Intn(len(pieces))])
	}
	return b.String()
}

func rightPieces() []string {
	return []string{"a", "bc", "d-e/f.g", " ", "  ", ":", "=", "\n", "\n\t", "\\\n", " \\\n", "\"\"", "\"x y\"", "\"\\\"\"", "\"\\\\\"", "\"\\n\\t\"", "\"\xff\t\x00\"", "\"a\\\n#b\"", "# c\n", "#\\\n\"\\\n", "\n\n", "~!"}
}

func anyPieces() []string {
	return append(rightPieces(), "\"", "\"", "\\", "\\", "\t", "#", "n", "t", "\\n", "\\q", "\\\\\n", "\x00", "\xff", "é", "\x7f", "\r\n", "\"a\\", "\\\"")
}

// bytePieces is what matters to the cutting, byte by byte.
func bytePieces() []string { return strings.Split("a|n|t| |:|=|\"|\"|\\|\\|\n|\n|\t|#|\xff", "|") }

// wantAsWords holds a text against the words, and against what follows of them.
func wantAsWords(t *testing.T, text string) {
	t.Helper()
	want, spot := linesByWords(text)
	l, s := lex.Lines(text)
	if !sameLines(l, want) || s != spot {
		t.Errorf("Lines(%.300q): %+v, %v, want %+v, %v", text, l, s, want, spot)
	}
	if s == (api.Spot{}) {
		wantBack(t, text, l)
		wantPlaces(t, text, l)
	}
}

// P11.1, P11.5, P11.7, P11.8
func TestModel(t *testing.T) {
	for seed := range int64(40) {
		t.Run(fmt.Sprint("seed ", seed), func(t *testing.T) {
			t.Parallel()
			r := rand.New(rand.NewSource(seed))
			pieces := [][]string{rightPieces(), anyPieces(), bytePieces()}[seed%3]
			long := []int{8, 20, 60, 200}[seed%4]
			last, right := "", 0
			for range 4000 {
				text := randomText(r, pieces, long)
				wantAsWords(t, text)
				wantBoth(t, last, text)
				last = text
				if _, s := lex.Lines(text); s == (api.Spot{}) {
					right++
				}
				if t.Failed() {
					t.FailNow()
				}
			}
			if right < 20 {
				t.Errorf("%d texts of 4000 are right", right)
			}
		})
	}
}

// P11.1: all short texts of the bytes that matter.
func TestAllShortTexts(t *testing.T) {
	letters := []string{"a", "n", " ", ":", "\"", "\\", "\n", "\t", "#"}
	texts := []string{""}
	for range 6 {
		var next []string
		for _, s := range texts {
			wantAsWords(t, s)
			for _, c := range letters {
				next = append(next, s+c)
			}
		}
		if texts = next; t.Failed() {
			t.FailNow()
		}
	}
}

// P11.1: long random texts, about as long as they may be.
func TestLongRandomTexts(t *testing.T) {
	for seed := range int64(12) {
		t.Run(fmt.Sprint("seed ", seed), func(t *testing.T) {
			t.Parallel()
			r := rand.New(rand.NewSource(seed))
			var b strings.Builder
			for b.Len() < 32768 {
				b.WriteString(randomText(r, rightPieces(), 50))
			}
			text := b.String()
			for _, n := range []int{32767, 32768, 32769} {
				if len(text) >= n {
					wantAsWords(t, text[:n])
				}
			}
		})
	}
}

// P11.2: the place of each byte, counted.
func TestPlaceModel(t *testing.T) {
	r := rand.New(rand.NewSource(1))
	for range 2000 {
		text := randomText(r, anyPieces(), 20)
		at := r.Intn(len(text)+9) - 4
		l, c := 1, 0
		for i := 0; i < at && i < len(text); i++ {
			if c++; text[i] == '\n' {
				l, c = l+1, 0
			}
		}
		wantPlace(t, text, at, l, c)
	}
}

// P11.3, P11.6
func TestQuoteModel(t *testing.T) {
	r := rand.New(rand.NewSource(2))
	for range 3000 {
		s := randomText(r, anyPieces(), 30)
		q := "\"" + strings.NewReplacer("\"", "\\\"", "\\", "\\\\", "\n", "\\n", "\t", "\\t").Replace(s) + "\""
		if lex.Quote(s) != q {
			t.Errorf("Quote(%q): %q", s, lex.Quote(s))
		}
		plain := s != ""
		for i := range len(s) {
			plain = plain && isBare(int(s[i]))
		}
		show := q
		if plain {
			show = s
		}
		if lex.Plain(s) != plain || lex.Show(s) != show {
			t.Errorf("%q: Plain %v, Show %q", s, lex.Plain(s), lex.Show(s))
		}
		wantLines(t, lex.Quote(s), line(1, quoted(s, 1, 0)))
		wantLines(t, lex.Show(s), line(1, api.Word{Text: s, Line: 1, Quoted: !plain}))
	}
}

// P11.7: blanks, comments, empty lines and joins with a blank ahead, put between the words of a text.
func TestChangesNothingModel(t *testing.T) {
	r := rand.New(rand.NewSource(3))
	gaps := []string{"", " ", "  ", " \\\n", " \\\n ", "  \\\n\\\n"}
	ends := []string{"\n", " # \" \\q\n", "#\\\na\n", " \n\n", " \\\n\n", "\n#\n \n\t\n"}
	for range 3000 {
		text := randomText(r, rightPieces(), 30)
		l, s := lex.Lines(text)
		if s != (api.Spot{}) {
			continue
		}
		var b strings.Builder
		for _, x := range l {
			if x.Indented {
				b.WriteString("\t")
			}
			b.WriteString(gaps[r.Intn(len(gaps))])
			for i := range x.Words {
				b.WriteString(strings.Trim(lex.Write([]api.Line{line(0, x.Words[i])}), "\n"))
				b.WriteString(" " + gaps[r.Intn(len(gaps))])
			}
			b.WriteString(ends[r.Intn(len(ends))])
		}
		if m, s := lex.Lines(b.String()); s != (api.Spot{}) || !sameLines(bared(m), bared(l)) {
			t.Errorf("%q as %q: %v, %v", text, b.String(), m, s)
		}
	}
}
