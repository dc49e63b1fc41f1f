package interp

import (
	"slices"
	"strconv"
	"strings"

	"brickyard/api"
)

// asTold: words as they are told in a body whose @ stands for this line, one blank between two.
func asTold(line string, words ...string) string {
	return strings.ReplaceAll(strings.Join(words, " "), "@", line)
}

// lenAsTold: how many bytes asTold has. It is asked first, since a word of many @ can come to far more than a content may have.
func lenAsTold(line string, words ...string) int {
	n := max(len(words)-1, 0)
	for _, w := range words {
		n += len(w) + strings.Count(w, "@")*(len(line)-1)
	}
	return n
}

// alike: are two words the same as they are told?
func alike(line, v, w string) bool {
	return v == w || lenAsTold(line, v) == lenAsTold(line, w) && asTold(line, v) == asTold(line, w)
}

// upper goes by bytes, for a content need not be of runes.
func upper(s string) string {
	b := []byte(s)
	for i, c := range b {
		if 'a' <= c && c <= 'z' {
			b[i] = c - 'a' + 'A'
		}
	}
	return string(b)
}

// lines are those of a content.
type lines []string

func linesOf(s string) lines {
	l := strings.Split(s, "\n")
	if last := len(l) - 1; l[last] == "" {
		return l[:last]
	}
	return l
}

// joined: a content that has these lines, a byte 10 behind each.
func (l lines) joined() string {
	var b strings.Builder
	for _, line := range l {
		b.WriteString(line)
		b.WriteByte('\n')
	}
	return b.String()
}

func (l lines) sorted() lines { return slices.Sorted(slices.Values(l)) }

// unlike leaves out those that are like the line ahead of them.
func (l lines) unlike() lines { return slices.Compact(slices.Clone(l)) }

func (l lines) counted() lines { return lines{strconv.Itoa(len(l))} }

// lineChange: what a sort, a uniq or a count does to the lines.
func lineChange(op int) func(lines) lines {
	switch op {
	case api.OpSort:
		return lines.sorted
	case api.OpUniq:
		return lines.unlike
	}
	return lines.counted
}
