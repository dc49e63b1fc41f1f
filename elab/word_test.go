package elab_test

import (
	"slices"
	"testing"

	"brickyard/api"
	"brickyard/elab"
)

// wordsOf is the words that a line of code comes to: what a text has of them, in a rule behind these lines.
func wordsOf(t *testing.T, ahead, words string) []string {
	t.Helper()
	p := wantPlan(t, root(ahead+"\nrule t :\n\ttext "+words))
	j, _ := p.Find("t")
	if len(j.Code) != 1 {
		t.Fatalf("%q: %+v", words, j)
	}
	return j.Code[0].Args
}

// P15.1, P15.6: what words stand for, quoted ones and others.
func TestWords(t *testing.T) {
	lets := "let E =\nlet N = \"\"\nlet A = a\nlet AB = a b\nlet Q = \"x y\" z\nlet D = $$(A) \"$$$$\" $$\nlet P = %.c %\nlet M = \":\" \"=\" \"#\" \"\\\"\" \"\\\\\" \"\\n\" \"\\t\" \"\xff\"\nlet L = \"\" a \"\" \"\" b \"\"\nlet ABCDEFGHIJKLMNOP = n\nlet Z_9 = z"
	for _, x := range []struct {
		words string
		want  []string
	}{
		{"a b", []string{"a", "b"}},
		{"\"\" \"a b\"", []string{"", "a b"}},
		{"$$ a$$b $$$$ \"$$\" $$(A) \"$$(A)\" $$$$(A)", []string{"$", "a$b", "$$", "$", "$(A)", "$(A)", "$$(A)"}},
		{"$$$(A) \"$$$(A)\"", []string{"$a", "$a"}},
		{"$(A)", []string{"a"}},
		{"$(AB)", []string{"a", "b"}},
		{"\"$(AB)\"", []string{"a b"}},
		{"x$(AB) $(AB)x \" $(AB)\" \"$(AB) \"", []string{"xa b", "a bx", " a b", "a b "}},
		{"$(AB)$(AB) \"$(AB)$(AB)\" \"$(AB) $(AB)\"", []string{"a ba b", "a ba b", "a b a b"}},
		{"$(AB) $(AB)", []string{"a", "b", "a", "b"}},
		{"$(E)", nil},
		{"$(E) a $(E) $(E) b $(E)", []string{"a", "b"}},
		{"\"$(E)\" $(E)$(E) x$(E)y", []string{"", "", "xy"}},
		{"$(N)", []string{""}},
		{"\"$(N)\" $(N)$(N) x$(N)y", []string{"", "", "xy"}},
		{"$(Q)", []string{"x y", "z"}},
		{"\"$(Q)\" $(A)$(Q)", []string{"x y z", "ax y z"}},
		{"$(D)", []string{"$(A)", "$$", "$"}},
		{"\"$(D)\"", []string{"$(A) $$ $"}},
		{"$(D)(A) \"$(D)$$(A)\"", []string{"$(A) $$ $(A)", "$(A) $$ $$(A)"}},
		{"$(P) \"$(P)\"", []string{"%.c", "%", "%.c %"}},
		{"$(M)", []string{":", "=", "#", "\"", "\\", "\n", "\t", "\xff"}},
		{"\"$(M)\"", []string{": = # \" \\ \n \t \xff"}},
		{"$(L)", []string{"", "a", "", "", "b", ""}},
		{"\"$(L)\" $(L)$(L)", []string{" a   b ", " a   b  a   b "}},
		{"$(ABCDEFGHIJKLMNOP)$(Z_9)", []string{"nz"}},
		{"( ) a) (A) $$(", []string{"(", ")", "a)", "(A)", "$("}},
		{": $(A):$(AB)=\"$(AB)\"", []string{":", "a", ":", "a", "b", "=", "a b"}},
		{"\"\xff$(A)\x00\"", []string{"\xffa\x00"}},
	} {
		if got := wordsOf(t, lets, x.words); !slices.Equal(got, x.want) {
			t.Errorf("%q: %q, want %q", x.words, got, x.want)
		}
	}
}

// P15.1: a let's words are filled in as it is read; names given a value again, their own one among it.
func TestLets(t *testing.T) {
	for _, x := range []struct {
		lets string
		want []string
	}{
		{"let A = a\nlet A = b", []string{"b"}},
		{"let A = a\nlet A =", nil},
		{"let A = a\nlet A = $(A)", []string{"a"}},
		{"let A = a b\nlet A = $(A) c $(A)", []string{"a", "b", "c", "a", "b"}},
		{"let A = a b\nlet A = \"$(A)\" $(A)", []string{"a b", "a", "b"}},
		{"let B = b\nlet A = $(B)\nlet B = c", []string{"b"}},
		{"let B = b\nlet A = $$(B)", []string{"$(B)"}},
		{"let B = $$(A)\nlet A = $(B)", []string{"$(A)"}},
		{"let A = let include rule", []string{"let", "include", "rule"}},
		{"let A = a\nlet B = $(A)\nlet A = $(A)$(B)\nlet B = $(A)$(B)\nlet A = $(A) $(B)", []string{"aa", "aaa"}},
		{"let A = a \"\" b\nlet B = $(A) $(A)\nlet B = $(B) x\nlet A = $(B) $(A)", []string{"a", "", "b", "a", "", "b", "x", "a", "", "b"}},
		{"let A = \"\"\nlet B = $(A) $(A)\nlet A = $(B) \"\" $(B)", []string{"", "", "", "", ""}},
		{"let A = \"\"\nlet B = $(A) $(A)\nlet C = $(B) $(B) a\nlet D = $(B) $(C)\nlet A = $(B)", []string{"", ""}},
	} {
		if got := wordsOf(t, x.lets, "$(A)"); !slices.Equal(got, x.want) {
			t.Errorf("%q: %q, want %q", x.lets, got, x.want)
		}
	}
}

// place is where a word stands in a file: in which line, in which column, behind how many bytes of words that are filled in ahead of it.
type place struct {
	text             string
	line, col, ahead int
}

// placed is files in which a word stands at each place where words are filled in; what is wrong besides comes later.
func placed(word string) []place {
	return []place{
		{"let X = " + word, 1, 8, 0},
		{"let X = a " + word + " $", 1, 10, 1},
		{"include " + word, 1, 8, 0},
		{"rule " + word + " :", 1, 5, 0},
		{"rule a " + word + " $ : $\n\t$", 1, 7, 1},
		{"rule ../a " + word + " :", 1, 10, 4},
		{"rule a a b c d " + word + " :", 1, 15, 5},
		{"rule %% " + word + " :", 1, 8, 2},
		{"rule a : " + word + " $\n\t$", 1, 9, 1},
		{"rule ../a : ../a " + word, 1, 17, 8},
		{"rule a : a \\\n  " + word, 2, 2, 2},
		{"rule a :\n\t" + word + " $\n\t$", 2, 1, 1},
		{"rule ../a : ../a\n\tfly\n\tend " + word, 3, 5, 14},
		{"rule %.o :\n\ttext a : " + word, 2, 10, 9},
		{"rule %% : ../a\n\ttext a : b\n# c\n\n\tfly:" + word, 5, 5, 17},
	}
}

// P15.1: a $ that stands for nothing, at each place where words are filled in.
func TestValuesThatAreNone(t *testing.T) {
	for _, s := range []string{
		"$", "a$", "$$$", "$x", "$A", "$)", "$()", "$(", "$(A", "$(A$(A)", "$(A$)", "$(a)", "$(B)", "$(AA)", "$(A)$", "$(A)$(B)", "$$$(B)", "$(9)", "$(_)", "$(ABCDEFGHIJKLMNOPQ)", "$((A))", "$($(A))",
		"\"$\"", "\"$ \"", "\"a b$\"", "\"$( A)\"", "\"$(A )\"", "\"$(A\"", "\"$(A B)\"", "\"$(\\n)\"", "\"$(X Y)\"", "\"$ (A)\"", "\"$(A) $(Z)\"",
	} {
		for _, x := range placed(s) {
			wantWrong(t, root("let A = a\nlet AB = $(A)\n"+x.text), api.ErrValue, "r", 2+x.line, x.col)
		}
	}
	wantWrong(t, root("rule a : $(A)\nlet A = a"), api.ErrValue, "r", 1, 9)
	wantWrong(t, root("let A = $(A)"), api.ErrValue, "r", 1, 8)
	wantWrong(t, root("let A = $$ $(B)\nlet B ="), api.ErrValue, "r", 1, 11)
}

// filler is lets that fill in as many bytes as leave n up to MaxText. A stands for 1000 bytes behind them.
func filler(n int) string {
	left := api.MaxText - n - 1000
	return "let A = " + times(1000, "a") + "\nlet B = " + times(left/1000, "$(A) ") + times(left%1000, "b") + "\n"
}

// P15.1: MaxText bytes filled in, and one more, at each place; each word as it comes out.
func TestMaxTextFilledIn(t *testing.T) {
	word := "./././aa"
	for _, x := range placed(word) {
		bytes := x.ahead + len(word)
		wantWrong(t, root(filler(bytes-1)+x.text), api.ErrLong, "r", 2+x.line, x.col)
		if _, where := elab.New(root(filler(bytes)+x.text).read, "r"); where.Err == api.ErrLong && where.Line == 2+x.line && where.Col == x.col {
			t.Errorf("%q: %v", x.text, where)
		}
	}
	wantPlan(t, root(filler(0)))
	wantPlan(t, root(filler(0)+"let X = \"\" \"\"\nlet Y = $(X)\nlet Z =\nlet Z = $(Z)$(Z) \"$(Z)\""))
}

// P15.1: what counts of each word: its bytes as they come out, blanks between texts among them where they stand in one word.
func TestWhatIsCounted(t *testing.T) {
	for _, x := range []struct {
		text  string
		bytes int
	}{
		{"let X = a bc", 3},
		{"let X = $$ \"\\n\" \"\\\"\"", 3},
		{"let X = \"a b\"", 3},
		{"let X = abc\nlet X = $(X)", 6},
		{"let X = a b c\nlet Y = $(X)", 6},
		{"let X = a b c\nlet Y = \"$(X)\"", 8},
		{"let X = a b c\nlet Y = $(X)d", 9},
		{"let X = a b c\nlet Y = $(X)$(X) $(X)", 16},
		{"let X = \"\" \"\" \"\"\nlet Y = $(X)", 0},
		{"let X = \"\" \"\" \"\"\nlet Y = \"$(X)\"", 2},
		{"let X = \"\" \"\" \"\"\nlet Y = $(X) $(X)\nlet Z = \"$(Y)$(Y)\"", 10},
		{"let X = \"\" a \"\" \"\"\nlet Y = \"$(X)\"", 5},
		{"rule a b : c\n\ttext d : =\n\twrite e", 3 + 7 + 6},
		{"rule %.o : %.c\n\tcat %.c", 3 + 3 + 6},
		{"rule a : b\n\t: = :", 5},
		{"let X = a\nrule $(X) : $(X)b $(X)\n\ttext $(X)", 1 + 1 + 2 + 1 + 5},
	} {
		long := api.Where{}
		for n := range 30 {
			_, where := elab.New(root(filler(n)+x.text).read, "r")
			if is := where.Err == api.ErrLong; is != (n < x.bytes) {
				t.Errorf("%q with %d bytes left: %v", x.text, n, where)
			}
			if n == x.bytes-1 {
				long = where
			}
		}
		if x.bytes > 0 && (long.Path != "r" || long.Line < 3) {
			t.Errorf("%q: %v", x.text, long)
		}
	}
	wantWrong(t, files{"r": filler(5) + "include ./l\nlet X = abc", "l": "let Y = a"}, api.ErrLong, "r", 4, 8)
	wantPlan(t, files{"r": filler(7) + "include ./l\nlet X = abc", "l": "let Y = a"})
	wantWrong(t, files{"r": filler(7) + "include ./l\ninclude l", "l": "let Y = ab c"}, api.ErrLong, "l", 1, 8)
	wantWrong(t, files{"r": filler(9) + "include ./l\ninclude l", "l": "let Y = ab c"}, api.ErrLong, "l", 1, 11)
	wantPlan(t, files{"r": filler(10) + "include ./l\ninclude l", "l": "let Y = ab c"})
	wantWrong(t, root("let A = "+times(1000, "a")+"\nlet B = "+times(30, "$(A)")+"\nlet C = $(B)"), api.ErrLong, "r", 3, 8)
}

// P15.1: of a word that has both a $ that stands for nothing, and too many bytes, the $ is told; of two words the first one.
func TestValueAheadOfLong(t *testing.T) {
	far := times(200, "$(A)")
	wantWrong(t, root(filler(0)+"let X = \""+far+"$x\""), api.ErrValue, "r", 3, 8)
	wantWrong(t, root(filler(0)+"let X = "+far+" $x"), api.ErrLong, "r", 3, 8)
	wantWrong(t, root(filler(0)+"let X = $x "+far), api.ErrValue, "r", 3, 8)
	wantWrong(t, root(filler(0)+"include $x"), api.ErrValue, "r", 3, 8)
	wantWrong(t, root(filler(0)+"include ../a"), api.ErrLong, "r", 3, 8)
	huge := "let B = " + times(30, "$(A)") + "\nlet C = " + times(6000, "$(B)") // 180 million bytes, if it were put together
	wantWrong(t, root("let A = "+times(1000, "a")+"\n"+huge), api.ErrLong, "r", 3, 8)
	wantWrong(t, root("let A = "+times(1000, "a")+"\n"+huge+"$"), api.ErrValue, "r", 3, 8)
}

// doubled is lets behind which A stands for 2^n empty texts.
func doubled(n int) string { return "let A = \"\"\n" + times(n, "let A = $(A) $(A)\n") }

// R1, P15.1: empty texts have no bytes, so that lets may come to more of them than there is room for.
func TestEmptyTextsWithoutNumber(t *testing.T) {
	for _, n := range []int{15, 16, 17, 31, 62, 63, 64, 65, 1000, 1800} {
		lets := doubled(n)
		line := n + 2
		wantPlan(t, root(lets+"let B = $(A) a $(A)"))
		wantPlan(t, root(lets+"let B = $(A)\nlet A = x\nrule $(A) :"))
		wantWrong(t, root(lets+"include $(A)"), api.ErrArg, "r", line, 8)
		wantWrong(t, root(lets+"rule $(A) :"), api.ErrArg, "r", line, 5)
		wantWrong(t, root(lets+"rule a $(A) :"), api.ErrArg, "r", line, 7)
		wantWrong(t, root(lets+"rule %.o $(A) :"), api.ErrStem, "r", line, 9)
		wantWrong(t, root(lets+"rule a : b $(A)"), api.ErrArg, "r", line, 11)
		wantWrong(t, root(lets+"rule a :\n\tneed $(A)"), api.ErrStmt, "r", line+1, 1)
		wantWrong(t, root(lets+"rule a :\n\t$(A)"), api.ErrStmt, "r", line+1, 1)
		wantWrong(t, root(lets+"rule a :\n\ttext $(A)"), api.ErrJob, "r", line, 5)
		wantWrong(t, root(lets+"rule a :\n\ttext $(A) a $(A)\n\tfly"), api.ErrStmt, "r", line+2, 1)
		p := wantPlan(t, root(lets+"rule %.o : $(A)\nrule %.p :\n\ttext $(A) % $(A)\nrule %.p : x"))
		wantNone(t, p, "a.o")
		wantJob(t, p, "a.p", job("a.p : x", ""))
		if n > 15 {
			wantWrong(t, root(lets+"let B = \"$(A)\""), api.ErrLong, "r", line, 8)
			wantWrong(t, root(lets+"let B = \"$(A)$(A)\" $"), api.ErrLong, "r", line, 8)
			wantWrong(t, root(lets+"let B = a$(A)"), api.ErrLong, "r", line, 8)
			wantWrong(t, root(lets+"let B = $(A) a\nlet C = $(B)$(B)"), api.ErrLong, "r", line+1, 8)
		}
	}
}

// P15.1: just as many empty texts as come to MaxText blanks, and one more.
func TestEmptyTextsJoined(t *testing.T) {
	lets := "let X = " + times(3641, "\"\" ") + "\nlet Y = " + times(9, "$(X) ") // 32769 of them
	wantPlan(t, root(lets+"\nlet Z = \"$(Y)\""))
	wantWrong(t, root(lets+"\nlet Z = \"$(Y)\"\nlet X = x"), api.ErrLong, "r", 4, 8)
	wantWrong(t, root(lets+" \"\"\nlet Z = \"$(Y)\""), api.ErrLong, "r", 3, 8)
	wantWrong(t, root(lets+"\nlet Z = \"$(Y)a\""), api.ErrLong, "r", 3, 8)
	wantWrong(t, root(lets+"\nlet Y = $(Y) \"\"\nlet Z = \"$(Y)\""), api.ErrLong, "r", 4, 8)
	wantWrong(t, root(lets+"\nlet Y = $(Y) a\nlet Z = \"$(Y)\""), api.ErrLong, "r", 4, 8)
	wantWrong(t, root(lets+"\nlet Y = $(Y) $(Y) $(Y)\nlet Z = \"$(Y)\""), api.ErrLong, "r", 4, 8)
}

// P15.1: a line of code has as many words as are said, up to a job's text that is full of them.
func TestLinesOfManyWords(t *testing.T) {
	for n := 160; n < 175; n++ { // rule a : and its byte 10, a byte 9, text, each "" with a blank ahead, a byte 10
		f := root("let A = " + times(n, "\"\" ") + "\nrule a :\n\ttext $(A)")
		if 9+1+4+3*n+1 > api.MaxJob {
			wantWrong(t, f, api.ErrJob, "r", 2, 5)
			continue
		}
		j, _ := wantPlan(t, f).Find("a")
		if len(j.Code) != 1 || !slices.Equal(j.Code[0].Args, make([]string, n)) {
			t.Errorf("%d empty words: %+v", n, j)
		}
	}
	wantPlan(t, root("rule %.o :\n\ttext "+times(5000, "a ")))
	wantWrong(t, root("rule %.o :\n\twrite "+times(5000, "a ")), api.ErrStmt, "r", 2, 1)
	wantWrong(t, root("rule a :\n\ttext "+times(5000, "a ")), api.ErrJob, "r", 1, 5)
	for n := 245; n < 255; n++ {
		f := root("rule a :\n\ttext " + times(n, "a "))
		if 9+1+4+2*n+1 > api.MaxJob {
			wantWrong(t, f, api.ErrJob, "r", 1, 5)
		} else if j, _ := wantPlan(t, f).Find("a"); len(j.Code) != 1 || len(j.Code[0].Args) != n {
			t.Errorf("%d words: %+v", n, j)
		}
	}
}
