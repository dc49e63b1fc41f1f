package depfile_test

import (
	"math/rand"
	"slices"
	"strings"
	"testing"

	"brickyard/api"
	"brickyard/depfile"
	"brickyard/path"
)

// What a unit of a text may be, beside a byte of a word.
const (
	blank = 256 + iota // a join too
	colon
	end
	wrong
)

// unit is what one or two bytes of a text stand for, and where they stand.
type unit struct{ what, at int }

// units is a text cut into units.
func units(text string) []unit {
	var out []unit
	for at := 0; at < len(text); at++ {
		u := unit{int(text[at]), at}
		pair := text[at:min(at+2, len(text))]
		switch {
		case pair == "\\\n":
			u.what = blank
			at++
		case pair == `\ `, pair == `\:`, pair == `\\`:
			u.what = int(pair[1])
			at++
		case text[at] == ' ':
			u.what = blank
		case text[at] == ':':
			u.what = colon
		case text[at] == '\n':
			u.what = end
		case text[at] == '\\', text[at] < 32:
			u.what = wrong
		}
		out = append(out, u)
	}
	return append(out, unit{end, len(text)})
}

// parseByWords is what the chapter's words say of a text: all faults are gathered, and the first one is told.
func parseByWords(text string) ([]api.DepRule, api.Spot) {
	if len(text) > 32768 {
		return nil, api.Spot{Err: api.ErrLong, At: 32768}
	}
	var out []api.DepRule
	var faults []int
	for u := units(text); len(u) > 0; {
		n := slices.IndexFunc(u, func(x unit) bool { return x.what == end })
		r, says, f := lineByWords(u[:n], u[n].at)
		faults = append(faults, f...)
		if says {
			out = append(out, r)
		}
		u = u[n+1:]
	}
	if len(faults) > 0 {
		return nil, api.Spot{Err: api.ErrText, At: slices.Min(faults)}
	}
	return out, api.Spot{}
}

// lineByWords is what a line says, if it says something, and the places where it goes wrong.
func lineByWords(u []unit, last int) (api.DepRule, bool, []int) {
	var words []string
	var faults []int
	ahead := -1 // so many words stand ahead of the first :
	for i, x := range u {
		switch begins := i == 0 || u[i-1].what == blank || u[i-1].what == colon; {
		case x.what == colon && (len(words) == 0 || ahead >= 0):
			faults = append(faults, x.at)
		case x.what == colon:
			ahead = len(words)
		case x.what == blank:
		default:
			if begins {
				words = append(words, "")
			}
			if x.what == wrong || begins && ahead < 0 && len(words) == 2 {
				faults = append(faults, x.at)
			}
			words[len(words)-1] += string([]byte{byte(x.what)})
		}
	}
	if len(words) > 0 && ahead < 0 {
		faults = append(faults, last)
	}
	if len(words) == 0 || len(faults) > 0 {
		return api.DepRule{}, false, faults
	}
	return rule(words[0], words[1:]...), true, nil
}

// wantParse holds Parse against the words. It tells the error.
func wantParse(t *testing.T, text string) api.Errno {
	t.Helper()
	got, s := depfile.Parse(text)
	want, at := parseByWords(text)
	if !same(got, want) || s != at {
		t.Fatalf("Parse(%q): %q %v, want %q %v", text, got, s, want, at)
	}
	return s.Err
}

// P16.1: all texts of a few bytes.
func TestParseOfAllShortTexts(t *testing.T) {
	const bytes = "a :\\\n\t"
	texts := []string{""}
	for range 6 {
		var longer []string
		for _, s := range texts {
			wantParse(t, s)
			for _, c := range bytes {
				longer = append(longer, s+string(c))
			}
		}
		texts = longer
	}
	for _, s := range texts {
		wantParse(t, s)
	}
}

// writer makes random texts and rules.
type writer struct{ r *rand.Rand }

// pick is one of some texts.
func (w writer) pick(l ...string) string { return l[w.r.Intn(len(l))] }

// gap is what may stand between words.
func (w writer) gap() string {
	return w.pick(" ", " ", "  ", "\\\n", " \\\n  ", "\\\n\\\n ")
}

// maybe is a gap, or nothing.
func (w writer) maybe() string { return w.pick("", "", w.gap()) }

// word is a word as it may be written.
func (w writer) word() string {
	s := ""
	for range 1 + w.r.Intn(3) {
		s += w.pick("a", "b", ".", "/", `\ `, `\:`, `\\`, "\xff", "~", "#", "\x7f")
	}
	return s
}

// line is a line that may be.
func (w writer) line() string {
	if w.r.Intn(4) == 0 {
		return w.maybe() + w.maybe()
	}
	s := w.maybe() + w.word() + w.maybe() + ":"
	for i := range w.r.Intn(4) {
		if i == 0 {
			s += w.maybe() + w.word()
		} else {
			s += w.gap() + w.word()
		}
	}
	return s + w.maybe()
}

// text is some lines, some with random bytes put in, taken out or in the place of others.
func (w writer) text(faults int) string {
	s := ""
	for range w.r.Intn(5) {
		s += w.line() + "\n"
	}
	s += w.line()
	for range faults {
		at := w.r.Intn(len(s) + 1)
		to := min(at+w.r.Intn(2), len(s))
		s = s[:at] + w.pick("", ":", " ", "\\", "\n", "\t", "\x1f", "a", "\x00", "\\\n", `\a`) + s[to:]
	}
	return s
}

// P16.1, P16.6: long rows of random texts. What is told may be.
func TestRandomTexts(t *testing.T) {
	seen := map[api.Errno]int{}
	for seed := range int64(20000) {
		w := writer{rand.New(rand.NewSource(seed))}
		s := w.text(int(seed % 4))
		seen[wantParse(t, s)]++
		l, _ := depfile.Parse(s)
		if printed, e := depfile.Print(l...); e != api.OK || printed != printByWords(l) {
			t.Fatalf("%q: Print(%q): %q %v", s, l, printed, e)
		}
	}
	if seen[api.OK] < 5000 || seen[api.ErrText] < 5000 {
		t.Error(seen)
	}
}

// P16.7: two texts, one behind the other.
func TestTwoTexts(t *testing.T) {
	seen := map[[2]api.Errno]int{}
	for seed := range int64(20000) {
		w := writer{rand.New(rand.NewSource(seed))}
		a, b := w.text(w.r.Intn(2))+"\n", w.text(w.r.Intn(2))
		if u := units(a); a[len(a)-1] != '\n' || u[len(u)-2].what != end { // the byte 10 is in a join
			continue
		}
		if seed%50 == 0 {
			a = ""
		}
		la, sa := depfile.Parse(a)
		lb, sb := depfile.Parse(b)
		l, s := depfile.Parse(a + b)
		seen[[2]api.Errno{sa.Err, sb.Err}]++
		want, at := slices.Concat(la, lb), sa
		if sa.Err == api.OK && sb.Err != api.OK {
			at = api.Spot{Err: sb.Err, At: len(a) + sb.At}
		}
		if at.Err != api.OK {
			want = nil
		}
		if !same(l, want) || s != at {
			t.Fatalf("%q and %q: %q %v, want %q %v", a, b, l, s, want, at)
		}
	}
	for _, x := range [][2]api.Errno{{api.OK, api.OK}, {api.ErrText, api.OK}, {api.OK, api.ErrText}, {api.ErrText, api.ErrText}} {
		if seen[x] < 500 {
			t.Error(x, seen)
		}
	}
}

// writtenByWords is a word written.
func writtenByWords(s string) string {
	out := ""
	for _, c := range []byte(s) {
		if strings.IndexByte(` :\`, c) >= 0 {
			out += `\`
		}
		out += string([]byte{c})
	}
	return out
}

// printByWords is what Print says of rules that may be.
func printByWords(l []api.DepRule) string {
	s := ""
	for _, r := range l {
		s += writtenByWords(r.Target) + ":"
		for _, d := range r.Deps {
			s += " " + writtenByWords(d)
		}
		s += "\n"
	}
	return s
}

// foldByWords is what Fold says of rules that may be.
func foldByWords(width int, l []api.DepRule) string {
	s := ""
	for _, r := range l {
		s += writtenByWords(r.Target) + ":"
		for _, d := range r.Deps {
			line := s[strings.LastIndex(s, "\n")+1:]
			if len(line+" "+writtenByWords(d)) > width {
				s += " \\\n  " + writtenByWords(d)
			} else {
				s += " " + writtenByWords(d)
			}
		}
		s += "\n"
	}
	return s
}

// mayByWords: may a rule be?
func mayByWords(r api.DepRule) bool {
	for _, s := range append([]string{r.Target}, r.Deps...) {
		if s == "" || slices.ContainsFunc([]byte(s), func(c byte) bool { return c <= 31 }) {
			return false
		}
	}
	return true
}

// bytes is a text of random bytes.
func (w writer) bytes(wild bool) string {
	s := ""
	for range 1 + w.r.Intn(4) {
		s += w.pick("a", "b", " ", ":", `\`, "\xff", "\x7f", string([]byte{byte(32 + w.r.Intn(224))}))
	}
	if wild && w.r.Intn(15) == 0 {
		return w.pick("", s+"\n", "\t"+s, "\x1f")
	}
	return s
}

// rules is a list of rules; if it is wild, some may not be.
func (w writer) rules(wild bool) []api.DepRule {
	var l []api.DepRule
	for range w.r.Intn(4) {
		r := rule(w.bytes(wild))
		for range w.r.Intn(6) {
			r.Deps = append(r.Deps, w.bytes(wild))
		}
		l = append(l, r)
	}
	return l
}

// P16.2, P16.3, P16.6: long rows of random rules, by all widths.
func TestRandomRules(t *testing.T) {
	for seed := range int64(1500) {
		w := writer{rand.New(rand.NewSource(seed))}
		l := w.rules(false)
		printed, e := depfile.Print(l...)
		if e != api.OK || printed != printByWords(l) {
			t.Fatalf("Print(%q): %q %v", l, printed, e)
		}
		for width := -1; width < 40; width++ {
			s, e := depfile.Fold(width, l...)
			if e != api.OK || s != foldByWords(width, l) {
				t.Fatalf("Fold(%d, %q): %q %v", width, l, s, e)
			}
			if back, spot := depfile.Parse(s); !same(back, l) || spot != (api.Spot{}) {
				t.Fatalf("Parse(%q): %q %v, want %q", s, back, spot, l)
			}
		}
		if back, spot := depfile.Parse(printed); !same(back, l) || spot != (api.Spot{}) {
			t.Fatalf("Parse(%q): %q %v, want %q", printed, back, spot, l)
		}
	}
}

// P16.2, P16.3: random rules, some of which may not be.
func TestRandomRulesThatMayNotBe(t *testing.T) {
	refused := 0
	for seed := range int64(8000) {
		w := writer{rand.New(rand.NewSource(seed))}
		l := w.rules(true)
		wantPrinted, wantFolded, want := printByWords(l), foldByWords(12, l), api.OK
		if slices.ContainsFunc(l, func(r api.DepRule) bool { return !mayByWords(r) }) {
			refused++
			wantPrinted, wantFolded, want = "", "", api.ErrArg
		}
		if s, e := depfile.Print(l...); s != wantPrinted || e != want {
			t.Fatalf("Print(%q): %q %v", l, s, e)
		}
		if s, e := depfile.Fold(12, l...); s != wantFolded || e != want {
			t.Fatalf("Fold(%q): %q %v", l, s, e)
		}
	}
	if refused < 2000 || refused > 7000 {
		t.Error(refused)
	}
}

// depsByWords is what the chapter's words say of Deps.
func depsByWords(target string, l []api.DepRule) ([]string, api.Errno) {
	if !path.Is(target) {
		return nil, api.ErrArg
	}
	var all []string
	n := 0
	for _, r := range l {
		if p, _ := path.Norm(r.Target); p == target {
			all = append(all, r.Deps...)
			n++
		}
	}
	if n == 0 {
		return nil, api.ErrNone
	}
	var out []string
	for _, d := range all {
		p, e := path.Norm(d)
		if e != api.OK {
			return nil, e
		}
		if !slices.Contains(out, p) {
			out = append(out, p)
		}
	}
	return out, api.OK
}

// mergeByWords is what the chapter's words say of Merge.
func mergeByWords(l []api.DepRule) []api.DepRule {
	var out []api.DepRule
	for _, r := range l {
		i := slices.IndexFunc(out, func(x api.DepRule) bool { return x.Target == r.Target })
		if i < 0 {
			i = len(out)
			out = append(out, rule(r.Target))
		}
		for _, d := range r.Deps {
			if !slices.Contains(out[i].Deps, d) {
				out[i].Deps = append(out[i].Deps, d)
			}
		}
	}
	return out
}

// name is a text that may be a path.
func (w writer) name(wild bool) string {
	s := w.pick("a", "b", "c", "./a", "a/", "b/c", "b//c", "b/x/../c", "/c", "d")
	if wild && w.r.Intn(12) == 0 {
		return w.pick("", "..", "A", "a b", strings.Repeat("a/", 30)+"a")
	}
	return s
}

// named is a list of rules with names.
func (w writer) named(wild bool) []api.DepRule {
	var l []api.DepRule
	for range w.r.Intn(6) {
		r := rule(w.name(wild))
		for range w.r.Intn(6) {
			r.Deps = append(r.Deps, w.name(wild))
		}
		l = append(l, r)
	}
	return l
}

// sorted is a list in order.
func sorted(l []string) []string { return slices.Sorted(slices.Values(l)) }

// P16.4, P16.5, P16.8: random rules with names.
func TestRandomNames(t *testing.T) {
	seen := map[api.Errno]int{}
	for seed := range int64(20000) {
		w := writer{rand.New(rand.NewSource(seed))}
		l, more := w.named(seed%2 == 0), w.named(seed%4 == 0)
		merged := depfile.Merge(l...)
		if !same(merged, mergeByWords(l)) {
			t.Fatalf("Merge(%q): %q", l, merged)
		}
		if again := depfile.Merge(merged...); !same(again, merged) {
			t.Fatalf("Merge(%q): %q", merged, again)
		}
		for _, target := range []string{"a", "b", "b/c", "c", "d", "A", w.name(true)} {
			want, e := depsByWords(target, l)
			hangs(t, target, l, e, want...)
			seen[e]++
			got, f := depfile.Deps(target, merged...)
			if (f == api.OK) != (e == api.OK) || !slices.Equal(sorted(got), sorted(want)) {
				t.Fatalf("Deps(%q, %q): %q %v, merged %q %v", target, l, want, e, got, f)
			}
			both, f := depfile.Deps(target, slices.Concat(l, more)...)
			second, g := depfile.Deps(target, more...)
			for _, s := range second {
				if !slices.Contains(want, s) {
					want = append(want, s)
				}
			}
			if (f == api.OK) != (e == api.OK && g == api.OK || e == api.OK && g == api.ErrNone || e == api.ErrNone && g == api.OK) || f == api.OK && !slices.Equal(both, want) {
				t.Fatalf("Deps(%q, %q and %q): %q, want %q", target, l, more, both, want)
			}
		}
		if t.Failed() {
			t.Fatal(seed)
		}
	}
	for _, e := range []api.Errno{api.OK, api.ErrArg, api.ErrNone, api.ErrLong} {
		if seen[e] < 500 {
			t.Error(e, seen)
		}
	}
}
