package interp

import (
	"slices"

	"brickyard/api"
	"brickyard/path"
)

// body: statements that are being done, one behind the other, round by round. It has all that a run must know to go on behind a question, so that a run can be stopped and copied.
type body struct {
	code   []api.Stmt
	next   int      // the statement that is to be done
	line   string   // what an @ stands for
	rounds []string // what an @ stands for in each round to come
}

// goOn does the next thing: a statement, the beginning of a round, the end of a body or of all.
func (r *Run) goOn() {
	if len(r.open) == 0 {
		r.end()
		return
	}
	b := &r.open[len(r.open)-1]
	switch {
	case b.next < len(b.code):
		r.statement()
	case len(b.rounds) == 0:
		r.open = r.open[:len(r.open)-1]
	case r.pay(1):
		b.line, b.rounds = b.rounds[0], b.rounds[1:]
		b.next = 0
	}
}

// end: behind the last statement.
func (r *Run) end() {
	for _, p := range r.targets {
		if _, is := r.written[p]; !is {
			r.fail(api.ErrOutput, p)
			return
		}
	}
	r.event = api.RunEvent{Kind: api.RunDone}
}

// statement does the next one of the innermost body. One that stops where it asks is done again from its beginning once the run was told, but for the unit that it cost.
func (r *Run) statement() {
	if !r.begun && !r.pay(1) {
		return
	}
	at := len(r.open) - 1 // not a pointer: a body that is opened may move the others
	b := r.open[at]
	r.do(b.code[b.next], b.line)
	r.begun = r.event.Kind == api.RunNeed
	if !r.begun {
		r.open[at].next++
	}
}

func (r *Run) do(s api.Stmt, line string) {
	switch s.Op {
	case api.OpNeed:
		r.ask(line, s.Args[0])
	case api.OpCat:
		if c, ok := r.ask(line, s.Args[0]); ok && r.mayPut(len(c)) {
			r.buffer += c
		}
	case api.OpText:
		if r.mayPut(lenAsTold(line, s.Args...) + 1) {
			r.buffer += asTold(line, s.Args...) + "\n"
		}
	case api.OpUpper:
		r.buffer = upper(r.buffer)
	case api.OpSort, api.OpUniq, api.OpCount:
		r.changeLines(lineChange(s.Op))
	case api.OpWrite:
		if p, ok := r.pathOf(line, s.Args[0]); ok {
			r.write(p)
		}
	case api.OpFail:
		r.fail(api.ErrFail, asTold(line, s.Args...))
	case api.OpRepeat:
		r.enterRounds(s.Body, slices.Repeat([]string{line}, s.N))
	case api.OpEach:
		if c, ok := r.ask(line, s.Args[0]); ok {
			r.enterRounds(s.Body, linesOf(c))
		}
	case api.OpWhen:
		if alike(line, s.Args[0], s.Args[1]) {
			r.open = append(r.open, body{code: s.Body, line: line})
		}
	}
}

// enterRounds opens a body behind its last statement, so that the first of its rounds is begun, and paid for, as all others are.
func (r *Run) enterRounds(code []api.Stmt, rounds []string) {
	r.open = append(r.open, body{code: code, next: len(code), rounds: rounds})
}

// fail ends the run.
func (r *Run) fail(why api.Errno, text string) {
	r.event = api.RunEvent{Kind: api.RunFailed, Why: why, Text: text}
}

// pay: is there so much fuel? It is used then; else the run failed.
func (r *Run) pay(n int) bool {
	if n > r.fuel-r.used {
		r.used = r.fuel
		r.fail(api.ErrFuel, "")
		return false
	}
	r.used += n
	return true
}

// mayPut: may so many bytes stand behind the buffer? They are paid for then; else the run failed.
func (r *Run) mayPut(n int) bool {
	if len(r.buffer)+n > api.MaxContent {
		r.fail(api.ErrSize, "")
		return false
	}
	return r.pay(n)
}

// pathOf: the path of a word; false, if it has none, by which the run failed.
func (r *Run) pathOf(line, word string) (string, bool) {
	s := asTold(line, word)
	p, e := path.Norm(s)
	if e != api.OK {
		r.fail(api.ErrPath, s)
		return "", false
	}
	return p, true
}

// ask: the content of the path of a word; false, if the run stopped, or failed.
func (r *Run) ask(line, word string) (string, bool) {
	p, ok := r.pathOf(line, word)
	if !ok {
		return "", false
	}
	if c, is := r.told[p]; is {
		return c.content, true
	}
	if len(r.needs) >= api.MaxNeeds {
		r.fail(api.ErrNeeds, p)
		return "", false
	}
	r.needs = append(r.needs, p)
	r.event = api.RunEvent{Kind: api.RunNeed, Path: p}
	return "", false
}

func (r *Run) changeLines(change func(lines) lines) {
	s := change(linesOf(r.buffer)).joined()
	if len(s) > api.MaxContent {
		r.fail(api.ErrSize, "")
		return
	}
	r.buffer = s
}

func (r *Run) write(p string) {
	_, twice := r.written[p]
	if twice || !slices.Contains(r.targets, p) {
		r.fail(api.ErrOutput, p)
		return
	}
	r.written[p] = held{r.buffer}
	r.buffer = ""
}
