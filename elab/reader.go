package elab

import (
	"slices"
	"strings"

	"brickyard/action"
	"brickyard/api"
	"brickyard/path"
	"brickyard/rules"
)

// reader reads files, one in another, and lays what they say into its plan. A plan that goes wrong is not answered, so nothing is taken back.
type reader struct {
	read     func(p string) (string, bool)
	values   map[string]value // by their names
	open     []string         // the files that are being read, the innermost one last
	includes int              // that were read
	bytes    int              // of all words that were filled in
	plan     *Plan
}

// wrong: an error at a word of the file that is being read.
func (r *reader) wrong(e api.Errno, w api.Word) api.Where {
	return api.Where{Err: e, Path: r.open[len(r.open)-1], Line: w.Line, Col: w.Col}
}

func (r *reader) readFile(p, text string) api.Where {
	items, where := rules.Parse(text)
	if where.Err != api.OK {
		where.Path = p
		return where
	}
	if !slices.Contains(r.plan.files, p) {
		r.plan.files = append(r.plan.files, p)
	}
	r.open = append(r.open, p)
	for _, x := range items {
		if where := r.readItem(x); where.Err != api.OK {
			return where
		}
	}
	r.open = r.open[:len(r.open)-1]
	return api.Where{}
}

func (r *reader) readItem(x api.RuleItem) api.Where {
	switch x.Kind {
	case api.ItemLet:
		return r.readLet(x)
	case api.ItemInclude:
		return r.readInclude(x)
	}
	return r.readRule(x)
}

func (r *reader) readLet(x api.RuleItem) api.Where {
	v, where := r.fill(x.Words)
	if where.Err != api.OK {
		return where
	}
	r.values[x.Name] = v
	return api.Where{}
}

func (r *reader) readInclude(x api.RuleItem) api.Where {
	v, where := r.fill(x.Words)
	if where.Err != api.OK {
		return where
	}
	word := x.Words[0]
	if len(v) != 1 {
		return r.wrong(api.ErrArg, word)
	}
	p, e := path.Norm(v[0].text) // of several empty texts an error, too
	switch {
	case e != api.OK:
		return r.wrong(e, word)
	case r.includes == api.MaxIncludes || len(r.open) > api.MaxNest:
		return r.wrong(api.ErrLong, word)
	case slices.Contains(r.open, p):
		return r.wrong(api.ErrLoop, word)
	}
	text, is := r.read(p)
	if !is {
		return r.wrong(api.ErrNone, word)
	}
	r.includes++
	return r.readFile(p, text)
}

func (r *reader) readRule(x api.RuleItem) api.Where {
	targets, where := r.fill(x.Targets)
	if where.Err != api.OK {
		return where
	}
	deps, where := r.fill(x.Words)
	if where.Err != api.OK {
		return where
	}
	lines, where := r.fillCode(x.Code)
	switch {
	case where.Err != api.OK:
		return where
	case len(targets) == 0:
		return r.wrong(api.ErrJob, x.Targets[0])
	case strings.Contains(targets[0].text, "%"):
		return r.addPattern(x, targets, deps, lines)
	}
	return r.addExplicit(x, targets, deps, lines)
}

// full: are there as many targets as may be?
func (r *reader) full() bool {
	return len(r.plan.makers)+len(r.plan.patterns) == api.MaxTargets
}

func (r *reader) addPattern(x api.RuleItem, targets, deps value, lines [][]string) api.Where {
	target := targets[0]
	switch {
	case len(targets) > 1:
		return r.wrong(api.ErrStem, targets[1].word)
	case strings.Count(target.text, "%") > 1:
		return r.wrong(api.ErrStem, target.word)
	case !path.Is(path.Fill(target.text, "x")):
		return r.wrong(api.ErrArg, target.word)
	case r.full():
		return r.wrong(api.ErrFull, target.word)
	}
	if where := r.checkCode(x.Code, lines); where.Err != api.OK {
		return where
	}
	made := rule{targets: []string{target.text}, lines: lines}
	for _, d := range deps { // of several empty texts one is enough: with it no path is made
		made.deps = append(made.deps, d.text)
	}
	r.plan.patterns = append(r.plan.patterns, made)
	return api.Where{}
}

func (r *reader) addExplicit(x api.RuleItem, targets, deps value, lines [][]string) api.Where {
	made := &rule{lines: lines}
	if where := r.addTargets(made, targets); where.Err != api.OK {
		return where
	}
	for _, d := range deps {
		p, e := path.Norm(d.text)
		if e != api.OK {
			return r.wrong(e, d.word)
		}
		made.deps = append(made.deps, p)
	}
	made.deps = eachOnce(made.deps)
	if where := r.checkCode(x.Code, lines); where.Err != api.OK {
		return where
	}
	if len(JobText(made.job())) > api.MaxJob {
		return r.wrong(api.ErrJob, x.Targets[0])
	}
	r.plan.explicit = append(r.plan.explicit, made)
	return api.Where{}
}

func (r *reader) addTargets(made *rule, targets value) api.Where {
	for i, t := range targets {
		p, e := path.Norm(t.text)
		switch {
		case e != api.OK:
			return r.wrong(e, t.word)
		case r.plan.makers[p] != nil:
			return r.wrong(api.ErrTwice, t.word)
		case i == api.MaxOuts:
			return r.wrong(api.ErrJob, t.word)
		case r.full():
			return r.wrong(api.ErrFull, t.word)
		}
		r.plan.makers[p] = made
		made.targets = append(made.targets, p)
	}
	return api.Where{}
}

// checkCode: the error of a rule's code, whose lines are filled in.
func (r *reader) checkCode(code []api.Line, lines [][]string) api.Where {
	_, spot := action.Parse(lines)
	if spot.Err == api.OK {
		return api.Where{}
	}
	at := min(spot.At, len(code)-1) // an end that is missing is told behind the last line
	return r.wrong(spot.Err, code[at].Words[0])
}
