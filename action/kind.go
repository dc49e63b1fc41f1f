package action

import (
	"math"
	"strconv"

	"brickyard/api"
)

// kind is what the chapter's table says of a kind of statements.
type kind struct {
	word        string // the first one of its line
	least, most int    // how many Args it has
	number      bool   // N stands on its line
	body        bool   // the lines of a body stand behind its line
}

const (
	opEnd     = 0           // the line that ends a body: it is no statement, but its line is read as theirs are
	anyNumber = math.MaxInt // the most Args of a kind that has any number of them
)

// kinds has a row for each first word, at the number of its kind.
var kinds = [...]kind{
	opEnd:        {word: "end"},
	api.OpNeed:   {word: "need", least: 1, most: 1},
	api.OpCat:    {word: "cat", least: 1, most: 1},
	api.OpText:   {word: "text", most: anyNumber},
	api.OpUpper:  {word: "upper"},
	api.OpSort:   {word: "sort"},
	api.OpUniq:   {word: "uniq"},
	api.OpCount:  {word: "count"},
	api.OpWrite:  {word: "write", least: 1, most: 1},
	api.OpFail:   {word: "fail", most: anyNumber},
	api.OpRepeat: {word: "repeat", number: true, body: true},
	api.OpEach:   {word: "each", least: 1, most: 1, body: true},
	api.OpWhen:   {word: "when", least: 2, most: 2, body: true},
}

// takes: may a statement of this kind have so many Args?
func (k kind) takes(args int) bool { return args >= k.least && args <= k.most }

// ownLine: the line of a statement that may be, without its body's.
func ownLine(s api.Stmt) []string {
	k := kinds[s.Op]
	words := []string{k.word}
	if k.number {
		words = append(words, strconv.Itoa(s.N))
	}
	return append(words, s.Args...)
}

// readLine: the statement that a line says, without its body; false, if it says none.
func readLine(words []string) (api.Stmt, bool) {
	if len(words) == 0 {
		return api.Stmt{}, false
	}
	for op, k := range kinds {
		if k.word == words[0] {
			return k.fill(api.Stmt{Op: op}, words[1:])
		}
	}
	return api.Stmt{}, false
}

// fill: a statement of this kind with what stands behind the first word of its line; false, if that may not stand there.
func (k kind) fill(s api.Stmt, behind []string) (api.Stmt, bool) {
	if k.number {
		if len(behind) == 0 {
			return api.Stmt{}, false
		}
		n, ok := readNumber(behind[0])
		if !ok {
			return api.Stmt{}, false
		}
		s.N, behind = n, behind[1:]
	}
	if !k.takes(len(behind)) {
		return api.Stmt{}, false
	}
	s.Args = append(s.Args, behind...)
	return s, true
}

// readNumber: the number of a repeat. It is told again and held against what was read, for each number stands in one form alone.
func readNumber(s string) (int, bool) {
	n, err := strconv.Atoi(s)
	if err != nil || !mayNumber(n) || strconv.Itoa(n) != s {
		return 0, false
	}
	return n, true
}

func mayNumber(n int) bool { return n >= 0 && n <= api.MaxRepeat }
