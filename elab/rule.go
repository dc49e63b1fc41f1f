package elab

import (
	"slices"
	"strings"

	"brickyard/action"
	"brickyard/api"
	"brickyard/lex"
	"brickyard/path"
)

// rule is a rule, its words filled in.
type rule struct {
	targets []string   // of a pattern the one with the %
	deps    []string   // of an explicit rule paths, each once
	lines   [][]string // of its code, which action.Parse takes
}

// job: the job of an explicit rule, in new memory.
func (x *rule) job() api.Job {
	code, _ := action.Parse(x.lines)
	return api.Job{Key: x.targets[0], Targets: slices.Clone(x.targets), Deps: slices.Clone(x.deps), Code: code}
}

// jobFor: the job by which a pattern makes a path; false, if it does not make it.
func (x *rule) jobFor(p string) (api.Job, bool) {
	stem, fits := path.Match(x.targets[0], p)
	if !fits {
		return api.Job{}, false
	}
	made := rule{targets: []string{p}}
	for _, d := range x.deps {
		dep, e := path.Norm(path.Fill(d, stem))
		if e != api.OK {
			return api.Job{}, false
		}
		made.deps = append(made.deps, dep)
	}
	made.deps = eachOnce(made.deps)
	for _, words := range x.lines {
		made.lines = append(made.lines, fillAll(words, stem))
	}
	j := made.job()
	if len(JobText(j)) > api.MaxJob {
		return api.Job{}, false
	}
	return j, true
}

// fillAll: words, the stem standing for each of their %.
func fillAll(words []string, stem string) []string {
	var out []string
	for _, w := range words {
		out = append(out, path.Fill(w, stem))
	}
	return out
}

// eachOnce leaves out what is like one ahead of it.
func eachOnce(l []string) []string {
	seen := map[string]struct{}{}
	var out []string
	for _, s := range l {
		if _, twice := seen[s]; !twice {
			seen[s] = struct{}{}
			out = append(out, s)
		}
	}
	return out
}

// JobText: the text of a job.
func JobText(j api.Job) string {
	var b strings.Builder
	b.WriteString("rule")
	for _, s := range j.Targets {
		b.WriteString(" " + lex.Show(s))
	}
	b.WriteString(" :")
	for _, s := range j.Deps {
		b.WriteString(" " + lex.Show(s))
	}
	b.WriteString("\n")
	code, _ := action.Print(j.Code) // nothing, of code that may not be
	for line := range strings.Lines(code) {
		b.WriteString("\t" + line)
	}
	return b.String()
}
