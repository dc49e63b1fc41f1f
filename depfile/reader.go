package depfile

import (
	"strings"

	"brickyard/api"
)

// reader goes over a text from the left. Where it goes wrong it stays.
type reader struct {
	text string
	at   int
}

// over: is nothing left?
func (r *reader) over() bool { return r.at >= len(r.text) }

// sees: does what is left begin with that?
func (r *reader) sees(s string) bool { return strings.HasPrefix(r.text[r.at:], s) }

// line: the rule that the next line says, without a target if it says nothing; the line's byte 10 is passed. False where it goes wrong.
func (r *reader) line() (api.DepRule, bool) {
	var rule api.DepRule
	parted := false // is the : passed?
	for {
		r.passBlanks()
		waits := rule.Target != "" && !parted // only the : may come
		switch {
		case r.over(), r.sees("\n"):
			if waits {
				return api.DepRule{}, false
			}
			r.at++
			return rule, true
		case r.sees(":"):
			if !waits {
				return api.DepRule{}, false
			}
			parted = true
			r.at++
		case waits:
			return api.DepRule{}, false
		default:
			w, ok := r.word()
			if !ok {
				return api.DepRule{}, false
			}
			if parted {
				rule.Deps = append(rule.Deps, w)
			} else {
				rule.Target = w
			}
		}
	}
}

// passBlanks passes what parts words.
func (r *reader) passBlanks() {
	for {
		switch {
		case r.sees(" "):
			r.at++
		case r.sees(join):
			r.at += len(join)
		default:
			return
		}
	}
}

// word: the word that begins here. False where it goes wrong.
func (r *reader) word() (string, bool) {
	var w []byte
	for !r.over() && !r.sees(" ") && !r.sees(":") && !r.sees("\n") && !r.sees(join) {
		switch {
		case r.text[r.at] < ' ':
			return "", false
		case r.sees(`\ `), r.sees(`\:`), r.sees(`\\`):
			r.at++
		case r.sees(`\`):
			return "", false
		}
		w = append(w, r.text[r.at])
		r.at++
	}
	return string(w), true
}
