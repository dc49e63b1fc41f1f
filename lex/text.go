package lex

import (
	"strings"

	"brickyard/api"
)

// bare: may a byte stand in a word without quotes?
func bare(c byte) bool {
	return c > ' ' && c <= '~' && strings.IndexByte("\"#:=\\", c) < 0
}

// Plain: may a text stand without quotes?
func Plain(s string) bool {
	for i := range len(s) {
		if !bare(s[i]) {
			return false
		}
	}
	return s != ""
}

// Quote: a text as a quoted word.
func Quote(s string) string {
	var b strings.Builder
	b.WriteByte('"')
	for i := range len(s) {
		switch c := s[i]; c {
		case '"', '\\':
			b.WriteByte('\\')
			b.WriteByte(c)
		case '\n':
			b.WriteString("\\n")
		case '\t':
			b.WriteString("\\t")
		default:
			b.WriteByte(c)
		}
	}
	b.WriteByte('"')
	return b.String()
}

// Show: the text of a word.
func Show(s string) string {
	if Plain(s) {
		return s
	}
	return Quote(s)
}

// Write: lines as a text.
func Write(l []api.Line) string {
	var b strings.Builder
	for _, x := range l {
		if x.Indented {
			b.WriteByte('\t')
		}
		for i, w := range x.Words {
			if i > 0 {
				b.WriteByte(' ')
			}
			b.WriteString(written(w))
		}
		b.WriteByte('\n')
	}
	return b.String()
}

// written: a word as Write tells it.
func written(w api.Word) string {
	switch {
	case w.Mark:
		return w.Text
	case w.Quoted:
		return Quote(w.Text)
	}
	return Show(w.Text)
}
