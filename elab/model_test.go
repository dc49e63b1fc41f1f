package elab_test

import (
	"fmt"
	"math/rand"
	"regexp"
	"slices"
	"strings"
	"testing"

	"brickyard/action"
	"brickyard/api"
	"brickyard/elab"
	"brickyard/lex"
	"brickyard/path"
	"brickyard/rules"
)

// byWords is what the chapter's words say of files: what is read, and what comes of it.
type byWords struct {
	f        files
	asked    []string
	open     []string
	values   map[string][]string
	bytes    int
	jobs     []api.Job
	patterns []pattern
}

type pattern struct {
	target string
	deps   []string
	lines  [][]string
}

// told is a text, and the word by which it is told.
type told struct {
	text string
	word api.Word
}

// readByWords answers what is thrown where the files go wrong.
func readByWords(f files) (m *byWords, where api.Where) {
	m = &byWords{f: f, values: map[string][]string{}}
	defer func() {
		if thrown := recover(); thrown != nil {
			where = thrown.(api.Where)
		}
	}()
	m.file("r")
	return m, api.Where{}
}

func (m *byWords) throw(e api.Errno, w api.Word) {
	panic(api.Where{Err: e, Path: m.open[len(m.open)-1], Line: w.Line, Col: w.Col})
}

func (m *byWords) file(p string) {
	m.asked = append(m.asked, p)
	items, where := rules.Parse(m.f[p])
	if where.Err != api.OK {
		where.Path = p
		panic(where)
	}
	m.open = append(m.open, p)
	for _, x := range items {
		switch x.Kind {
		case api.ItemLet:
			m.values[x.Name] = texts(m.words(x.Words))
		case api.ItemInclude:
			m.include(x)
		case api.ItemRule:
			m.rule(x)
		}
	}
	m.open = m.open[:len(m.open)-1]
}

func (m *byWords) include(x api.RuleItem) {
	to, word := texts(m.words(x.Words)), x.Words[0]
	if len(to) != 1 {
		m.throw(api.ErrArg, word)
	}
	p, e := path.Norm(to[0])
	if e != api.OK {
		m.throw(e, word)
	}
	if len(m.asked) > 64 || len(m.open) == 9 {
		m.throw(api.ErrLong, word)
	}
	if slices.Contains(m.open, p) {
		m.throw(api.ErrLoop, word)
	}
	if _, is := m.f[p]; !is {
		m.asked = append(m.asked, p)
		m.throw(api.ErrNone, word)
	}
	m.file(p)
}

func texts(l []told) []string {
	var out []string
	for _, x := range l {
		out = append(out, x.text)
	}
	return out
}

var (
	partsAlone = regexp.MustCompile(`^(?s:[^$]|\$\$|\$\([A-Z][A-Z0-9_]{0,15}\))*$`)
	dollar     = regexp.MustCompile(`\$\$|\$\([A-Z0-9_]+\)`)
	justOne    = regexp.MustCompile(`^\$\([A-Z0-9_]+\)$`)
)

func (m *byWords) words(words []api.Word) []told {
	var out []told
	for _, w := range words {
		for _, s := range m.word(w) {
			out = append(out, told{s, w})
		}
	}
	return out
}

func (m *byWords) word(w api.Word) []string {
	if !partsAlone.MatchString(w.Text) {
		m.throw(api.ErrValue, w)
	}
	name := func(s string) string { return strings.Trim(s, "$()") }
	for _, s := range dollar.FindAllString(w.Text, -1) {
		if _, is := m.values[name(s)]; !is && s != "$$" {
			m.throw(api.ErrValue, w)
		}
	}
	out := m.values[name(w.Text)]
	if w.Quoted || !justOne.MatchString(w.Text) {
		out = []string{dollar.ReplaceAllStringFunc(w.Text, func(s string) string {
			if s == "$$" {
				return "$"
			}
			return strings.Join(m.values[name(s)], " ")
		})}
	}
	m.bytes += len(strings.Join(out, ""))
	if m.bytes > 32768 {
		m.throw(api.ErrLong, w)
	}
	return out
}

func (m *byWords) rule(x api.RuleItem) {
	targets, deps := m.words(x.Targets), m.words(x.Words)
	var lines [][]string
	for _, l := range x.Code {
		lines = append(lines, texts(m.words(l.Words)))
	}
	switch {
	case len(targets) == 0:
		m.throw(api.ErrJob, x.Targets[0])
	case strings.Contains(targets[0].text, "%"):
		m.pattern(targets)
		m.code(x, lines)
		m.patterns = append(m.patterns, pattern{targets[0].text, texts(deps), lines})
	default:
		j := api.Job{Targets: m.targets(targets), Deps: m.deps(deps), Code: m.code(x, lines)}
		j.Key = j.Targets[0]
		if len(textByWords(j)) > 512 {
			m.throw(api.ErrJob, x.Targets[0])
		}
		m.jobs = append(m.jobs, j)
	}
}

func (m *byWords) made() []string {
	var out []string
	for _, j := range m.jobs {
		out = append(out, j.Targets...)
	}
	return out
}

func (m *byWords) pattern(targets []told) {
	if len(targets) > 1 {
		m.throw(api.ErrStem, targets[1].word)
	}
	at := targets[0]
	if strings.Count(at.text, "%") != 1 {
		m.throw(api.ErrStem, at.word)
	}
	if !path.Is(strings.Replace(at.text, "%", "x", 1)) {
		m.throw(api.ErrArg, at.word)
	}
	if len(m.made())+len(m.patterns) >= 256 {
		m.throw(api.ErrFull, at.word)
	}
}

func (m *byWords) targets(l []told) []string {
	var out []string
	for _, x := range l {
		p, e := path.Norm(x.text)
		made := slices.Concat(m.made(), out)
		switch {
		case e != api.OK:
			m.throw(e, x.word)
		case slices.Contains(made, p):
			m.throw(api.ErrTwice, x.word)
		case len(out) == 4:
			m.throw(api.ErrJob, x.word)
		case len(made)+len(m.patterns) >= 256:
			m.throw(api.ErrFull, x.word)
		}
		out = append(out, p)
	}
	return out
}

func (m *byWords) deps(l []told) []string {
	var out []string
	for _, x := range l {
		p, e := path.Norm(x.text)
		if e != api.OK {
			m.throw(e, x.word)
		}
		if !slices.Contains(out, p) {
			out = append(out, p)
		}
	}
	return out
}

func (m *byWords) code(x api.RuleItem, lines [][]string) []api.Stmt {
	code, spot := action.Parse(lines)
	switch {
	case spot.Err == api.OK:
	case spot.At == len(lines):
		m.throw(spot.Err, x.Code[len(x.Code)-1].Words[0])
	default:
		m.throw(spot.Err, x.Code[spot.At].Words[0])
	}
	return code
}

// textByWords is the text of a job as lex.Write tells its lines.
func textByWords(j api.Job) string {
	plain := func(l []string) []api.Word {
		var out []api.Word
		for _, s := range l {
			out = append(out, api.Word{Text: s})
		}
		return out
	}
	lines := []api.Line{{Words: slices.Concat(plain([]string{"rule"}), plain(j.Targets), []api.Word{{Text: ":", Mark: true}}, plain(j.Deps))}}
	if action.May(j.Code) {
		code, _ := action.Lines(j.Code)
		for _, l := range code {
			lines = append(lines, api.Line{Indented: true, Words: plain(l)})
		}
	}
	return lex.Write(lines)
}

func (m *byWords) find(s string) (api.Job, bool) {
	if !path.Is(s) {
		return api.Job{}, false
	}
	for _, j := range m.jobs {
		if slices.Contains(j.Targets, s) {
			return j, true
		}
	}
	for _, x := range m.patterns {
		if j, is := x.makes(s); is {
			return j, true
		}
	}
	return api.Job{}, false
}

func (x pattern) makes(s string) (api.Job, bool) {
	stem, fits := path.Match(x.target, s)
	if !fits {
		return api.Job{}, false
	}
	j := api.Job{Key: s, Targets: []string{s}}
	for _, d := range x.deps {
		p, e := path.Norm(path.Fill(d, stem))
		if e != api.OK {
			return api.Job{}, false
		}
		if !slices.Contains(j.Deps, p) {
			j.Deps = append(j.Deps, p)
		}
	}
	var lines [][]string
	for _, l := range x.lines {
		var line []string
		for _, s := range l {
			line = append(line, strings.ReplaceAll(s, "%", stem))
		}
		lines = append(lines, line)
	}
	j.Code, _ = action.Parse(lines)
	return j, len(textByWords(j)) <= 512
}

// writer writes random files. One word of a hundred, or more, is wild.
type writer struct {
	r    *rand.Rand
	wild int
	made int // targets, each with a name of its own
}

func (w *writer) pick(from ...string) string { return from[w.r.Intn(len(from))] }

func (w *writer) isWild() bool { return w.r.Intn(100) < w.wild }

func (w *writer) wildWord() string {
	return w.pick("../x", "A", "\"\"", "$", "$x", "$(", "\"$(A\"", "$(Z)", "$()", "$(a)", "%%", "%", "%.o", "x%y", "\"a b\"", "\"$ (A)\"", "$(A)$(Z)", "$$", "a$$b", "\"%\"", "./%", "A%", "a/../..", "aaaaaaaaaaaaaaaaaaaaaaaaaaaaaaaaa", "aaaaaaaaaaaaaaaaaaaaaaaaaaaa/aaaaaaaaaaaaaaaaaaaaaaaaaaaa/aaaa", "$(E)", "$(A)", "\"$(A)\"", "\"$(E)\"", "$(L)", "$$$(B)", "a", "b", "t1", "t2", "\"\xff\"")
}

// word is one that is a dep, or stands in code.
func (w *writer) word() string {
	if w.isWild() {
		return w.wildWord()
	}
	return w.pick("a", "b", "c", "c/d", "./a", "a/../b", "x.c", "t1", "t2", "$(A)", "$(B)", "$(C)", "$(E)", "x$(C)", "\"$(C)\"", "$(C)/$(C)", "$(E)y$(E)", "..a", "\"b\"")
}

func (w *writer) words(most int, word func() string) string {
	var out string
	for range w.r.Intn(most + 1) {
		out += " " + word()
	}
	return out
}

func (w *writer) let() string {
	return "let " + w.pick("A", "B", "D", "F") + " =" + w.words(3, w.word) + "\n"
}

func (w *writer) targets() string {
	var out string
	for range 1 + w.r.Intn(3) + w.r.Intn(2)*w.r.Intn(2) {
		w.made++
		out += " " + w.pick("", "", "./", "x/../") + fmt.Sprintf("t%d", w.made)
		if w.isWild() {
			out += " " + w.wildWord()
		}
	}
	return out
}

// line is a line of code, or several.
func (w *writer) line(word func() string) string {
	if w.isWild() {
		return "\t" + w.pick("fly", "end", "repeat 2", "repeat x", "upper a", "cat", "when a", "$(E)", "$(A) a", ":", "text "+times(300, "z"), "$(D)") + "\n"
	}
	switch w.r.Intn(8) {
	case 0:
		return "\tcat " + w.pick("a", "%", "x.c", "\"$(A)\"", "$(C)", "%.c") + "\n"
	case 1:
		return "\ttext" + w.words(4, word) + w.pick("", " : =", " \"\" \"\\n\"") + "\n"
	case 2:
		return "\trepeat 2\n" + w.line(word) + "\n# within\n\tend\n"
	case 3:
		return "\teach \"%\" # a word\n\tend $(E)\n"
	case 4:
		return "\t$(E) when $(C) \"" + word() + "\"\n\tupper\n\tend\n"
	case 5:
		return "\tfail" + w.words(3, word) + "\n"
	}
	return "\t" + w.pick("upper", "sort", "uniq", "count", "$(S)", "write a") + "\n"
}

func (w *writer) rule() string {
	dep := func() string { return w.pick(w.word(), w.word(), "%.c", "%", "h/%/%", "%/../a") }
	head := "rule" + w.targets() + " :" + w.words(4, w.word) + "\n"
	if w.r.Intn(3) == 0 {
		target := w.pick("%.o", "%", "a%", "%/b", "x/%.c", "$(P)", "t%") + w.pick("", "", "", " $(E)")
		if w.isWild() {
			target += w.pick("%", "$(P)", " "+w.word(), " "+w.wildWord())
		}
		head = "rule " + target + " :" + w.words(3, dep) + "\n"
	}
	if w.isWild() {
		head = "rule" + w.words(3, w.wildWord) + w.pick(" $(E) :", " $(B) x% :", " ww $(A) $(C) xx zz :") + "\n"
	}
	for range w.r.Intn(4) {
		head += w.line(dep)
	}
	return head
}

// items is a random text; what may be included stands in includes.
func (w *writer) items(most int, includes ...string) string {
	var out string
	for range w.r.Intn(most + 1) {
		switch n := w.r.Intn(10); {
		case n < 2:
			out += w.let()
		case n < 4 && len(includes) > 0:
			out += "include " + w.pick(includes...) + "\n"
		case w.isWild() && w.isWild():
			out += w.pick("let x = a\n", "\tupper\n", "rule\n", "rule : a\n", "\"\n", "let A\n")
		case w.isWild():
			out += "include " + w.wildWord() + "\n"
		default:
			out += w.rule()
		}
	}
	return out
}

// lets stand ahead of random files.
const lets = "let A = a b\nlet B =\nlet C = c\nlet E =\nlet L = \"\" x \"\"\nlet D = cat a\nlet S = upper\nlet P = %.p\n"

// files of one root, each including those behind it; rarely such as come near a limit.
func (w *writer) files() files {
	f := files{}
	names := []string{"r", "l", "m/n", "o"}
	for i, s := range names {
		f[s] = w.items(5, names[i+1:]...)
		if w.isWild() {
			f[s] = w.items(3, append(names, "none", "$(C)")...)
		}
	}
	ahead := lets
	switch w.r.Intn(12) {
	case 0:
		ahead = filler(w.r.Intn(300)) + lets
	case 1:
		for i := range 256 - w.r.Intn(8) {
			ahead += fmt.Sprintf("rule q%d%% :\n", i)
		}
	case 2:
		ahead += times(64-w.r.Intn(5), "include e\n")
		f["e"] = w.pick("", "let F = f\n", lets)
	case 3:
		for i := range 9 {
			f[fmt.Sprintf("n%d", i)] = w.pick("", "let F = f\n") + fmt.Sprintf("include n%d\n", i+1)
		}
		last := 5 + w.r.Intn(4)
		f[fmt.Sprintf("n%d", last)] = w.items(3, "l")
		ahead += "include n1\n"
	}
	f["r"] = ahead + f["r"]
	return f
}

var probes = []string{"a", "b", "c", "c/d", "ab", "a/b", "x.c", "x.o", "y/z.o", "x/y.c", "x.p", "t1", "t2", "t3", "t4", "t5", "t6", "t7", "t99", "q1a", "q7/b", "x/b/b", "aaaaaaaaaaaaaaaaaaaaaaaaaaaaaaaa", "aaaaaaaaaaaaaaaaaaaaaaaaa.o", "a/a/a/a/a/a/a/a/a/a/a/a/a/a/a/a/a/a/a/a/a/a/a/a/a/a/a/a/bb", "", "A", "a//b", "./a", "..", "%", "%.o"}

// shown is all that a plan says of the jobs.
func shown(p *elab.Plan) string {
	var b strings.Builder
	for j := range p.Jobs() {
		b.WriteString(j.Key + " " + elab.JobText(j))
	}
	for _, s := range probes {
		j, is := p.Find(s)
		fmt.Fprintf(&b, "%q %v %v %q %s", s, is, p.Is(s), j.Key, elab.JobText(j))
	}
	return b.String()
}

// holds: what P15.7 says of a plan.
func holds(t *testing.T, p *elab.Plan) {
	t.Helper()
	makers := map[string]string{}
	keys := []string{}
	for j := range p.Jobs() {
		keys = append(keys, j.Key)
		for _, s := range j.Targets {
			if other, twice := makers[s]; twice {
				t.Errorf("%q has two makers: %q and %q", s, other, j.Key)
			}
			makers[s] = j.Key
			wantJob(t, p, s, j)
		}
		mayBe(t, p, j.Key, j)
	}
	if !slices.IsSorted(keys) || len(keys) != p.Len() {
		t.Errorf("Jobs: %q, Len: %d", keys, p.Len())
	}
	for _, s := range probes {
		if j, is := p.Find(s); is {
			mayBe(t, p, s, j)
		} else {
			wantNone(t, p, s)
		}
	}
}

func mayBe(t *testing.T, p *elab.Plan, s string, j api.Job) {
	t.Helper()
	n := len(j.Targets)
	if n < 1 || n > api.MaxOuts || j.Key != j.Targets[0] || !slices.Contains(j.Targets, s) || !action.May(j.Code) || len(elab.JobText(j)) > api.MaxJob {
		t.Errorf("Find(%q): %+v", s, j)
	}
	for _, l := range [][]string{j.Targets, j.Deps} {
		for i, x := range l {
			if !path.Is(x) || slices.Contains(l[:i], x) {
				t.Errorf("Find(%q): %+v", s, j)
			}
		}
	}
}

// P15.1 to P15.4, P15.7: long rows of random files, held against the words.
func TestRandomFiles(t *testing.T) {
	seen := map[api.Errno]int{}
	for seed := range int64(15000) {
		w := &writer{r: rand.New(rand.NewSource(seed))}
		w.wild = []int{0, 1, 3, 8, 25}[seed%5]
		f := w.files()
		m, want := readByWords(f)
		var asked []string
		p, where := elab.New(asking(f, &asked), "r")
		seen[where.Err]++
		if where != want || (p == nil) != (want.Err != api.OK) {
			t.Fatalf("%d: %q: %v, want %v", seed, f, where, want)
		}
		if !slices.Equal(asked, m.asked) {
			t.Fatalf("%d: %q: asked for %q, want %q", seed, f, asked, m.asked)
		}
		if p == nil {
			continue
		}
		slices.SortFunc(m.jobs, func(a, b api.Job) int { return strings.Compare(a.Key, b.Key) })
		wantJobs(t, p, m.jobs...)
		for _, s := range slices.Concat(probes, m.made()) {
			if j, is := m.find(s); is {
				wantJob(t, p, s, j)
				wantText(t, j, textByWords(j))
			} else {
				wantNone(t, p, s)
			}
		}
		if seed%10 < 3 {
			holds(t, p)
		}
		if t.Failed() {
			t.Fatalf("%d: %q", seed, f)
		}
	}
	for e, least := range map[api.Errno]int{api.OK: 5000, api.ErrArg: 200, api.ErrLong: 200, api.ErrNone: 30, api.ErrText: 30, api.ErrFull: 30, api.ErrItem: 30, api.ErrVar: 30, api.ErrStmt: 30, api.ErrEnd: 30, api.ErrLoop: 30, api.ErrValue: 200, api.ErrTwice: 30, api.ErrStem: 30, api.ErrJob: 30} {
		if seen[e] < least {
			t.Errorf("error %d comes %d times alone: %v", e, seen[e], seen)
		}
	}
}

// parses: is a text right alone, so that it stands in another one's place as it is?
func parses(s string) bool {
	_, where := rules.Parse(s)
	return where.Err == api.OK && !strings.HasPrefix(s, "\t")
}

// P15.5: the file's text in the include's place. Its lines stand further down then.
func TestIncludeSaysItsText(t *testing.T) {
	plans := 0
	for seed := range int64(4000) {
		w := &writer{r: rand.New(rand.NewSource(seed)), wild: []int{0, 2, 10}[seed%3]}
		ahead, within, behind := lets+w.items(3, "l"), w.items(3, "l"), w.items(3, "l")
		if !parses(ahead) || !parses(within) || !parses(behind) {
			continue
		}
		f := files{"l": w.items(1), "x": within, "r": ahead + "include x\n" + behind}
		p, where := elab.New(f.read, "r")
		q, want := elab.New(files{"l": f["l"], "r": ahead + within + behind}.read, "r")
		first, lines := strings.Count(ahead, "\n")+1, strings.Count(within, "\n")
		switch {
		case where.Path == "x":
			where.Path, where.Line = "r", where.Line+first-1
		case where.Path == "r" && where.Line > first:
			where.Line += lines - 1
		}
		if where != want {
			t.Fatalf("%d: %q: %v, want %v", seed, f, where, want)
		}
		if p == nil {
			continue
		}
		plans++
		if shown(p) != shown(q) {
			t.Fatalf("%d: %q: %s, want %s", seed, f, shown(p), shown(q))
		}
	}
	if plans < 1000 {
		t.Errorf("%d plans alone", plans)
	}
}

// P15.6: the words of a name's let in the place of the name.
func TestNameSaysItsWords(t *testing.T) {
	plans := 0
	for seed := range int64(4000) {
		w := &writer{r: rand.New(rand.NewSource(seed)), wild: []int{0, 2, 10}[seed%3]}
		words := w.words(4, w.word)
		named := func() string { return w.pick(w.word(), "$(V)", "$(V)") }
		text := lets + "let V =" + words + "\nrule" + w.targets() + w.pick("", " $(V)") + " :" + w.words(4, named) + "\n"
		for range w.r.Intn(4) {
			text += "\ttext" + w.words(3, named) + "\n"
		}
		text += "let G =" + w.words(3, named) + "\nrule g :" + w.pick("", " $(G)") + "\n\ttext $(G)\nrule %.o :" + w.words(3, named) + "\n" + w.pick("", "include $(V)\n")
		p, where := elab.New(files{"r": text, "a": "rule u : b"}.read, "r")
		q, want := elab.New(files{"r": strings.ReplaceAll(text, "$(V)", words), "a": "rule u : b"}.read, "r")
		if want.Err == api.ErrItem { // none or several words behind include, which are told otherwise where a name stands for them
			continue
		}
		if where.Err != want.Err || where.Line != want.Line {
			t.Fatalf("%d: %q: %v, want %v", seed, text, where, want)
		}
		if p == nil {
			continue
		}
		plans++
		if shown(p) != shown(q) {
			t.Fatalf("%d: %q: %s, want %s", seed, text, shown(p), shown(q))
		}
	}
	if plans < 1000 {
		t.Errorf("%d plans alone", plans)
	}
}
