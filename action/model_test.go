package action_test

import (
	"fmt"
	"math/rand"
	"reflect"
	"regexp"
	"slices"
	"strconv"
	"strings"
	"testing"

	"brickyard/action"
	"brickyard/api"
)

// firstWords are those of the kinds, at their numbers; end at 0.
var firstWords = []string{"end", "need", "cat", "text", "upper", "sort", "uniq", "count", "write", "fail", "repeat", "each", "when"}

// rightLine is the lines that are statements or an end: the first word, an n for a repeat's number, a w for any other word.
var (
	rightLine   = regexp.MustCompile("^((need|cat|write|each) [nw]|(text|fail)( [nw])*|upper|sort|uniq|count|end|repeat n|when [nw] [nw])$")
	rightNumber = regexp.MustCompile("^(0|[1-9][0-9]{0,2}|1000)$")
)

func isRight(line []string) bool {
	if len(line) == 0 || strings.Trim(line[0], "abcdefghijklmnopqrstuvwxyz") != "" {
		return false
	}
	said := line[0]
	for _, w := range line[1:] {
		if rightNumber.MatchString(w) {
			said += " n"
		} else {
			said += " w"
		}
	}
	return rightLine.MatchString(said)
}

// openBehind is how many bodies are open behind lines that are right; below 0, if there is an end too many.
func openBehind(lines [][]string) int {
	open := 0
	for _, line := range lines {
		if slices.Contains([]string{"repeat", "each", "when"}, line[0]) {
			open++
		} else if line[0] == "end" {
			open--
		}
	}
	return open
}

// spotByWords is the error that the chapter's words tell of lines, line by line.
func spotByWords(lines [][]string) api.Spot {
	statements := 0
	for i, line := range lines {
		if !isRight(line) {
			return api.Spot{Err: api.ErrStmt, At: i}
		}
		if line[0] != "end" {
			statements++
		}
		open := openBehind(lines[:i+1])
		switch {
		case open < 0:
			return api.Spot{Err: api.ErrEnd, At: i}
		case statements > 256:
			return api.Spot{Err: api.ErrLong, At: i}
		case open > 8:
			return api.Spot{Err: api.ErrDeep, At: i}
		}
	}
	if openBehind(lines) > 0 {
		return api.Spot{Err: api.ErrEnd, At: len(lines)}
	}
	return api.Spot{}
}

// treeByWords is the statements of lines that are right: a body's lines reach to the first end behind which no more is open than ahead of it.
func treeByWords(lines [][]string) []api.Stmt {
	var out []api.Stmt
	for i := 0; i < len(lines); i++ {
		line := lines[i]
		s := api.Stmt{Op: slices.Index(firstWords, line[0]), Args: append([]string{}, line[1:]...)}
		if s.Op == api.OpRepeat {
			s.N, _ = strconv.Atoi(line[1])
			s.Args = nil
		}
		if s.Op >= api.OpRepeat {
			n := 1
			for openBehind(lines[i:i+n]) > 0 {
				n++
			}
			s.Body = treeByWords(lines[i+1 : i+n-1])
			i += n - 1
		}
		out = append(out, s)
	}
	return out
}

// linesByWords is the lines of any list whose kinds are some, whatever else is in it.
func linesByWords(l []api.Stmt) [][]string {
	var out [][]string
	for _, s := range l {
		line := []string{firstWords[s.Op]}
		if s.N != 0 || s.Op == api.OpRepeat {
			line = append(line, strconv.Itoa(s.N))
		}
		out = append(append(out, append(line, s.Args...)), linesByWords(s.Body)...)
		if s.Op >= api.OpRepeat {
			out = append(out, []string{"end"})
		}
	}
	return out
}

// stripped is a list with nil for each list that has nothing.
func stripped(l []api.Stmt) []api.Stmt {
	var out []api.Stmt
	for _, s := range l {
		out = append(out, api.Stmt{Op: s.Op, Args: append([]string(nil), s.Args...), N: s.N, Body: stripped(s.Body)})
	}
	return out
}

func sameByWords(a, b []api.Stmt) bool { return reflect.DeepEqual(stripped(a), stripped(b)) }

// everyStmt tells each statement of a list, those in bodies too, with how many bodies are about it.
func everyStmt(l []api.Stmt, about int, tell func(s api.Stmt, about int)) {
	for _, s := range l {
		tell(s, about)
		everyStmt(s.Body, about+1, tell)
	}
}

// mayByWords is what the chapter's words say of a list.
func mayByWords(l []api.Stmt) (may bool, size, deep int) {
	may = true
	everyStmt(l, 0, func(s api.Stmt, about int) {
		size++
		wantsBody := s.Op == 10 || s.Op == 11 || s.Op == 12
		if deep = max(deep, about); wantsBody {
			deep = max(deep, about+1)
		}
		switch s.Op {
		case 1, 2, 8, 11:
			may = may && len(s.Args) == 1
		case 4, 5, 6, 7, 10:
			may = may && len(s.Args) == 0
		case 12:
			may = may && len(s.Args) == 2
		case 3, 9:
		default:
			may = false
		}
		may = may && (wantsBody || len(s.Body) == 0) && (s.N == 0 || s.Op == 10 && s.N > 0 && s.N < 1001)
	})
	return may && size < 257 && deep < 9, size, deep
}

// mayByReading: a list may be just if its lines say the same list again.
func mayByReading(l []api.Stmt) bool {
	known := true
	everyStmt(l, 0, func(s api.Stmt, _ int) { known = known && s.Op > 0 && s.Op < 13 })
	if !known {
		return false
	}
	lines := linesByWords(l)
	return spotByWords(lines) == api.Spot{} && sameByWords(treeByWords(lines), l)
}

// wantAsWords holds lines against the words, and against what follows of them.
func wantAsWords(t *testing.T, lines [][]string) {
	t.Helper()
	want := spotByWords(lines)
	l, spot := action.Parse(lines)
	if spot != want || spot != (api.Spot{}) && len(l) != 0 {
		t.Fatalf("Parse(%.300q): %d statements, %v, want %v", lines, len(l), spot, want)
	}
	if spot != (api.Spot{}) {
		return
	}
	if !sameByWords(l, treeByWords(lines)) {
		t.Fatalf("Parse(%.300q): %.300s, want %.300s", lines, whole(l), whole(treeByWords(lines)))
	}
	wantBack(t, l, lines)
	wantBeginnings(t, lines)
}

func pick[T any](r *rand.Rand, list ...T) T { return list[r.Intn(len(list))] }

func randomWord(r *rand.Rand) string {
	return pick(r, "a", "b", "a.c", "@", "end", "1", "0", "1000", "1001", "01", "", " ", "a b", "\"", ":", "\n", "\x00", "\xff", "upper", "repeat")
}

// randomLine is one that is right, most times.
func randomLine(r *rand.Rand, wrong int, steep bool) []string {
	op := r.Intn(len(firstWords))
	if steep && r.Intn(2) == 0 {
		op = pick(r, api.OpRepeat, api.OpEach, api.OpWhen)
	}
	line := []string{firstWords[op]}
	for n := []int{0, 1, 1, r.Intn(4), 0, 0, 0, 0, 1, r.Intn(3), 0, 1, 2}[op]; n > 0; n-- {
		line = append(line, randomWord(r))
	}
	if op == api.OpRepeat {
		line = append(line, pick(r, "0", "1", "9", "10", "999", "1000"))
	}
	if r.Intn(wrong) > 0 {
		return line
	}
	switch r.Intn(5) {
	case 0:
		return line[:len(line)-1]
	case 1:
		return append(line, randomWord(r))
	case 2:
		line[0] = pick(r, "", "fly", strings.ToUpper(line[0]), line[0]+"s", line[0][1:])
	case 3:
		return nil
	default:
		line[len(line)-1] = randomWord(r)
	}
	return line
}

// randomLines are such that most of their bodies are ended, and with closing all of them.
func randomLines(r *rand.Rand, n, wrong int, closing bool) [][]string {
	var out [][]string
	open, steep := 0, r.Intn(3) == 0
	for range r.Intn(n) {
		line := randomLine(r, wrong, steep)
		if len(line) == 1 && line[0] == "end" {
			if open == 0 && r.Intn(wrong) > 0 {
				continue
			}
			open--
		} else if len(line) > 0 && slices.Contains([]string{"repeat", "each", "when"}, line[0]) {
			if open == 8 && r.Intn(wrong) > 0 {
				continue
			}
			open++
		}
		out = append(out, line)
	}
	for ; closing && open > 0; open-- {
		out = append(out, []string{"end"})
	}
	return out
}

// P13.1, P13.4, P13.5, P13.6: long rows of random lines.
func TestModel(t *testing.T) {
	for seed := range int64(24) {
		t.Run(fmt.Sprint("seed ", seed), func(t *testing.T) {
			t.Parallel()
			r := rand.New(rand.NewSource(seed))
			long := []int{4, 8, 16, 40}[seed%4]
			var last [][]string
			counts := map[api.Errno]int{}
			for range 2500 {
				lines := randomLines(r, long, pick(r, 2, 20, 200), r.Intn(4) > 0)
				wantAsWords(t, lines)
				wantTogether(t, last, lines)
				last = lines
				_, spot := action.Parse(lines)
				if counts[spot.Err]++; t.Failed() {
					t.FailNow()
				}
			}
			if counts[api.OK] < 200 || counts[api.ErrStmt] < 200 || counts[api.ErrEnd] < 100 || long == 40 && counts[api.ErrDeep] < 5 {
				t.Errorf("too little of something: %v", counts)
			}
		})
	}
}

// P13.5: lines behind others, and a repeat about them.
func wantTogether(t *testing.T, a, b [][]string) {
	t.Helper()
	x, wrongX := action.Parse(a)
	y, wrongY := action.Parse(b)
	if wrongX != (api.Spot{}) || wrongY != (api.Spot{}) {
		return
	}
	if l, spot := action.Parse(slices.Concat(a, b)); spot != (api.Spot{}) || !sameByWords(l, slices.Concat(x, y)) {
		t.Errorf("Parse of %.300q behind %.300q: %.300s, %v", b, a, whole(l), spot)
	}
	l, spot := action.Parse(slices.Concat(cut("repeat 77"), b, cut("end")))
	if action.Deep(y) == 8 {
		if len(l) != 0 || spot.Err != api.ErrDeep {
			t.Errorf("Parse of a repeat about %.300q: %.300s, %v", b, whole(l), spot)
		}
	} else if spot != (api.Spot{}) || !sameByWords(l, list(repeat(77, y...))) {
		t.Errorf("Parse of a repeat about %.300q: %.300s, %v", b, whole(l), spot)
	}
}

// P13.1: long random lines, about as many as there may be.
func TestLongRandomLines(t *testing.T) {
	for seed := range int64(12) {
		t.Run(fmt.Sprint("seed ", seed), func(t *testing.T) {
			t.Parallel()
			r := rand.New(rand.NewSource(seed))
			counts := map[api.Errno]int{}
			for range 30 {
				lines := randomLines(r, 540, 1<<20, true)
				_, spot := action.Parse(lines)
				if counts[spot.Err]++; spot != spotByWords(lines) {
					t.Fatalf("%d lines: %v, want %v", len(lines), spot, spotByWords(lines))
				}
				if l, _ := action.Parse(lines); spot == (api.Spot{}) && (!sameByWords(l, treeByWords(lines)) || !action.May(l)) {
					t.Fatalf("%d lines are read otherwise", len(lines))
				}
			}
			if counts[api.OK] < 3 || counts[api.ErrLong] < 3 {
				t.Errorf("too little of something: %v", counts)
			}
		})
	}
}

// P13.1: all lists of few short lines.
func TestAllShortLists(t *testing.T) {
	choices := [][]string{{"end"}, {"upper"}, {"text"}, {"repeat", "1"}, {"each", "a"}, {"when", "a", "b"}, {"need"}, {}, {"end", "end"}, {"repeat", "01"}, {"upper", "a"}}
	lists := [][][]string{nil}
	for range 5 {
		var next [][][]string
		for _, lines := range worthReading(lists) {
			wantAsWords(t, lines)
			for _, line := range choices {
				next = append(next, append(slices.Clone(lines), line))
			}
		}
		lists = next
	}
}

// worthReading is those lists of which no line ahead of the last two is wrong: what stands further behind a wrong line is not read.
func worthReading(lists [][][]string) [][][]string {
	return slices.DeleteFunc(lists, func(l [][]string) bool {
		return len(l) > 2 && spotByWords(l[:len(l)-2]).Err == api.ErrStmt
	})
}

// randomStmts is a list that may be, most times.
func randomStmts(r *rand.Rand, n, nest, wrong int) []api.Stmt {
	var out []api.Stmt
	for range r.Intn(n) {
		s := api.Stmt{Op: 1 + r.Intn(12)}
		for k := []int{0, 1, 1, r.Intn(4), 0, 0, 0, 0, 1, r.Intn(3), 0, 1, 2}[s.Op]; k > 0; k-- {
			s.Args = append(s.Args, randomWord(r))
		}
		if s.Op == api.OpRepeat {
			s.N = pick(r, 0, 1, 10, 1000)
		}
		if s.Op >= api.OpRepeat && nest > 0 {
			s.Body = randomStmts(r, n, nest-1, wrong)
		}
		if r.Intn(wrong) == 0 {
			alter(r, &s)
		}
		out = append(out, s)
	}
	return out
}

// alter changes one thing of a statement, or nothing.
func alter(r *rand.Rand, s *api.Stmt) {
	switch r.Intn(7) {
	case 0:
		s.Op = pick(r, -1, 0, 13, 1+r.Intn(12))
	case 1:
		s.Args = append(slices.Clone(s.Args), randomWord(r))
	case 2:
		s.Args = s.Args[:len(s.Args)/2]
	case 3:
		s.N = pick(r, -1, 0, 1, 1000, 1001)
	case 4:
		s.Body = append(slices.Clone(s.Body), upper())
	case 5:
		s.Body = s.Body[:len(s.Body)/2]
	case 6:
		s.Args = slices.Clone(s.Args)
		if len(s.Args) > 0 {
			s.Args[r.Intn(len(s.Args))] = randomWord(r)
		}
	}
}

// altered is a list with one statement altered, somewhere in it.
func altered(r *rand.Rand, l []api.Stmt) []api.Stmt {
	out := stripped(l)
	at := out
	for len(at) > 0 {
		s := &at[r.Intn(len(at))]
		if len(s.Body) == 0 || r.Intn(2) == 0 {
			alter(r, s)
			break
		}
		at = s.Body
	}
	return out
}

// P13.2, P13.3, P13.4: long rows of random lists.
func TestModelOfLists(t *testing.T) {
	for seed := range int64(16) {
		t.Run(fmt.Sprint("seed ", seed), func(t *testing.T) {
			t.Parallel()
			r := rand.New(rand.NewSource(seed))
			var mays, nots, sames int
			var last []api.Stmt
			for range 2500 {
				l := randomStmts(r, pick(r, 3, 4, 5), pick(r, 2, 5, 9, 12), pick(r, 10, 100))
				may, size, deep := mayByWords(l)
				if may != mayByReading(l) || may != action.May(l) {
					t.Fatalf("May(%.300s): %v, by the words %v, by reading %v", whole(l), action.May(l), may, mayByReading(l))
				}
				if action.Size(l) != size || action.Deep(l) != deep {
					t.Fatalf("%.300s: Size %d, Deep %d, want %d, %d", whole(l), action.Size(l), action.Deep(l), size, deep)
				}
				if may {
					wantBack(t, l, linesByWords(l))
					mays++
				} else {
					wantRefused(t, l)
					nots++
				}
				for _, other := range [][]api.Stmt{last, altered(r, l), stripped(l)} {
					is := sameByWords(l, other)
					if wantSame(t, is, l, other); is {
						sames++
					}
				}
				if last = l; t.Failed() {
					t.FailNow()
				}
			}
			if mays < 400 || nots < 100 || sames < 2500 {
				t.Errorf("%d lists may be, %d may not, %d are the same", mays, nots, sames)
			}
		})
	}
}
