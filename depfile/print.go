package depfile

import (
	"math"
	"strings"

	"brickyard/api"
)

// join is what may part a line's words beside a blank.
const join = "\\\n"

// Print: rules as a text.
func Print(l ...api.DepRule) (string, api.Errno) {
	return Fold(math.MaxInt, l...)
}

// Fold: rules as a text of short lines.
func Fold(width int, l ...api.DepRule) (string, api.Errno) {
	var b strings.Builder
	for _, r := range l {
		if !may(r) {
			return "", api.ErrArg
		}
		head := written(r.Target) + ":"
		b.WriteString(head)
		n := len(head) // how many bytes the line has
		for _, d := range r.Deps {
			w := " " + written(d)
			if n+len(w) > width {
				b.WriteString(" " + join + " ")
				n = 1
			}
			b.WriteString(w)
			n += len(w)
		}
		b.WriteByte('\n')
	}
	return b.String(), api.OK
}

// may: may a rule be?
func may(r api.DepRule) bool {
	for _, d := range r.Deps {
		if !mayWord(d) {
			return false
		}
	}
	return mayWord(r.Target)
}

// mayWord: may a text be a target, or a dep?
func mayWord(s string) bool {
	for i := range len(s) {
		if s[i] < ' ' {
			return false
		}
	}
	return s != ""
}

// written: a word as it is written.
func written(s string) string {
	return strings.NewReplacer(" ", `\ `, ":", `\:`, `\`, `\\`).Replace(s)
}
