package elab

import (
	"slices"
	"strings"

	"brickyard/api"
)

const (
	// enough: of empty texts side by side so many are counted, and no more. They have no bytes, so that MaxText does not bound how many of them a few lets come to, each naming the one ahead twice. So many are too long wherever blanks come between them, and so are all that are more.
	enough = api.MaxText + 2

	// maxWords: so many words of a line of code are kept. More of them are as wrong as these, or as much too long for a job's text.
	maxWords = api.MaxJob + 1
)

// run is a text that a word comes to; an empty one is all those that stand side by side.
type run struct {
	text  string
	times int      // 1, of a text with bytes
	word  api.Word // as it is written
}

// value is a list of texts.
type value []run

// lay lays more texts behind those that are there.
func (v value) lay(x run) value {
	last := len(v) - 1
	if last < 0 || v[last].text != "" || x.text != "" {
		return append(v, x)
	}
	v[last].times = min(v[last].times+x.times, enough)
	return v
}

// bytes: how many the texts have together.
func (v value) bytes() int {
	n := 0
	for _, x := range v {
		n += len(x.text)
	}
	return n
}

// blanks: how many stand between the texts, if one stands between two.
func (v value) blanks() int {
	n := 0
	for _, x := range v {
		n += x.times
	}
	return max(n-1, 0)
}

// joined: the texts with one blank between two.
func (v value) joined() string {
	var b strings.Builder
	for _, x := range v {
		b.WriteString(x.text)
		b.WriteString(strings.Repeat(" ", x.times))
	}
	return strings.TrimSuffix(b.String(), " ")
}

// words: the texts one by one, at most maxWords of them.
func (v value) words() []string {
	var out []string
	for _, x := range v {
		n := min(x.times, maxWords-len(out))
		out = append(out, slices.Repeat([]string{x.text}, n)...)
	}
	return out
}

// fill: what words stand for, one behind the other.
func (r *reader) fill(words []api.Word) (value, api.Where) {
	var out value
	for _, w := range words {
		v, e := r.fillWord(w)
		if e != api.OK {
			return nil, r.wrong(e, w)
		}
		for _, x := range v {
			out = out.lay(run{x.text, x.times, w})
		}
	}
	return out, api.Where{}
}

// fillCode: the lines of a rule's code, filled in.
func (r *reader) fillCode(code []api.Line) ([][]string, api.Where) {
	var lines [][]string
	for _, l := range code {
		v, where := r.fill(l.Words)
		if where.Err != api.OK {
			return nil, where
		}
		lines = append(lines, v.words())
	}
	return lines, api.Where{}
}

// fillWord: what a word stands for.
func (r *reader) fillWord(w api.Word) (value, api.Errno) {
	pieces, e := r.pieces(w.Text)
	if e != api.OK {
		return nil, e
	}
	if !w.Quoted && len(pieces) == 1 && strings.HasPrefix(w.Text, "$(") {
		return pieces[0], r.count(pieces[0].bytes())
	}
	n := 0
	for _, v := range pieces {
		n += v.bytes() + v.blanks()
	}
	if e := r.count(n); e != api.OK { // ahead of putting it together, for it may be far too long
		return nil, e
	}
	var b strings.Builder
	for _, v := range pieces {
		b.WriteString(v.joined())
	}
	return value{{text: b.String(), times: 1}}, api.OK
}

// count: may so many bytes more be filled in?
func (r *reader) count(bytes int) api.Errno {
	r.bytes += bytes
	if r.bytes > api.MaxText {
		return api.ErrLong
	}
	return api.OK
}

// pieces: what the parts of a word's text stand for.
func (r *reader) pieces(s string) ([]value, api.Errno) {
	var out []value
	for s != "" {
		v, n := r.piece(s)
		if n == 0 {
			return nil, api.ErrValue
		}
		out, s = append(out, v), s[n:]
	}
	return out, api.OK
}

// piece: what a text's beginning stands for, and how many bytes that has; none, if it is a $ that stands for nothing.
func (r *reader) piece(s string) (value, int) {
	switch at := strings.IndexByte(s, '$'); {
	case at < 0:
		return itself(s), len(s)
	case at > 0:
		return itself(s[:at]), at
	case strings.HasPrefix(s, "$$"):
		return itself("$"), 2
	case !strings.HasPrefix(s, "$("):
		return nil, 0
	}
	name, _, closed := strings.Cut(s[2:], ")")
	v, is := r.values[name]
	if !closed || !is {
		return nil, 0
	}
	return v, len("$()") + len(name)
}

// itself: one text.
func itself(s string) value { return value{{text: s, times: 1}} }
