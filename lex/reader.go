package lex

import "brickyard/api"

// fault is what is thrown when a text goes wrong: nothing of a text is answered beside an error, so no part of the reader needs to go on behind one.
type fault api.Spot

// reader goes over a text from left to right. It counts lines as it goes: Place of each word would go over the whole text each time.
type reader struct {
	text  string
	at    int // the byte that is read next
	line  int // its line, from 1 on
	start int // where that line begins
}

// pass goes over one byte.
func (r *reader) pass() {
	if r.text[r.at] == '\n' {
		r.line++
		r.start = r.at + 1
	}
	r.at++
}

// ended: is the logical line at its end? A join is always passed over as a whole, so that a byte 10 that is met is in none.
func (r *reader) ended() bool {
	return r.at == len(r.text) || r.text[r.at] == '\n'
}

// joins: does a join stand at that place?
func (r *reader) joins(at int) bool {
	return at+1 < len(r.text) && r.text[at] == '\\' && r.text[at+1] == '\n'
}

// wrong throws that the text goes wrong at that place.
func wrong(at int) {
	panic(fault{api.ErrText, at})
}

// logical reads a logical line, and goes over the byte 10 that ends it.
func (r *reader) logical() api.Line {
	l := api.Line{Number: r.line}
	if r.text[r.at] == '\t' {
		l.Indented = true
		r.pass()
	}
	l.Words = r.words()
	if r.at < len(r.text) {
		r.pass()
	}
	return l
}

// words reads the words up to the logical line's end.
func (r *reader) words() []api.Word {
	var words []api.Word
	for !r.ended() {
		w := api.Word{Line: r.line, Col: r.at - r.start}
		switch c := r.text[r.at]; {
		case c == '\\':
			if !r.joins(r.at) {
				wrong(r.at)
			}
			r.pass() // the join's byte 10 is the blank that the two count as
			fallthrough
		case c == ' ':
			r.pass()
			continue
		case c == '#':
			r.comment()
			continue
		case c == ':' || c == '=':
			w.Text, w.Mark = string(c), true
			r.pass()
		case c == '"':
			w.Text, w.Quoted = r.quoted(), true
		case bare(c):
			w.Text = r.bares()
		default:
			wrong(r.at)
		}
		words = append(words, w)
	}
	return words
}

// comment goes over all that is left of the logical line.
func (r *reader) comment() {
	for !r.ended() {
		if r.joins(r.at) {
			r.pass()
		}
		r.pass()
	}
}

// bares reads the bare bytes that stand side by side.
func (r *reader) bares() string {
	from := r.at
	for !r.ended() && bare(r.text[r.at]) {
		r.pass()
	}
	return r.text[from:r.at]
}

// quoted reads a quoted word, and answers what it tells.
func (r *reader) quoted() string {
	from := r.at
	r.pass()
	var told []byte
	for !r.ended() {
		switch c := r.text[r.at]; c {
		case '"':
			r.pass()
			return string(told)
		case '\\':
			told = append(told, r.escaped())
			r.pass()
			r.pass()
		default:
			told = append(told, c)
			r.pass()
		}
	}
	wrong(from)
	return ""
}

// escaped: what the backslash that is read next tells, with the byte behind it.
func (r *reader) escaped() byte {
	switch behind := r.at + 1; {
	case behind == len(r.text) || r.joins(behind): // a join's backslash is the join's alone
	case r.text[behind] == '\n':
		return ' '
	case r.text[behind] == 'n':
		return '\n'
	case r.text[behind] == 't':
		return '\t'
	case r.text[behind] == '"' || r.text[behind] == '\\':
		return r.text[behind]
	}
	wrong(r.at)
	return 0
}
