package record_test

import (
	"math/rand"
	"slices"
	"strings"
	"testing"

	"brickyard/api"
	"brickyard/record"
)

// chapterTrace is the trace T of the chapter's examples.
func chapterTrace() api.Trace {
	return api.Trace{Job: "j", Needs: []api.Need{has("a", "x"), lacks("b")}, Outs: []string{"o"}}
}

const chapterBytes = "\x01\x01\x6a\x02\x01\x61\x01\x01\x78\x01\x62\x00\x01\x01\x6f"

func has(path, content string) api.Need {
	return api.Need{Path: path, Have: true, Content: content}
}

func lacks(path string) api.Need { return api.Need{Path: path} }

func repeat(n int) string { return strings.Repeat("x", n) }

// faults are all that keeps a trace from being right, by the chapter's words.
func faults(t api.Trace) []string {
	var out []string
	tell := func(wrong bool, what string) {
		if wrong {
			out = append(out, what)
		}
	}
	tell(len(t.Job) > 512, "a long job")
	tell(len(t.Needs) > 8, "many needs")
	for i, n := range t.Needs {
		tell(!pathByWords(n.Path), "a path that is none")
		tell(len(n.Content) > 256, "a long content")
		tell(!n.Have && len(n.Content) > 0, "a content without Have")
		for _, m := range t.Needs[:i] {
			tell(m.Path == n.Path, "needs alike")
		}
	}
	tell(len(t.Outs) == 0, "no outs")
	tell(len(t.Outs) > 4, "many outs")
	for _, o := range t.Outs {
		tell(len(o) > 256, "a long out")
	}
	return out
}

func pathByWords(s string) bool {
	for _, p := range strings.Split(s, "/") {
		if len(p) < 1 || len(p) > 32 || p == "." || p == ".." || strings.Trim(p, "abcdefghijklmnopqrstuvwxyz0123456789_.-") != "" {
			return false
		}
	}
	return len(s) <= 60
}

// numberByWords are a number's bytes.
func numberByWords(n int) string {
	if n < 128 {
		return string([]byte{byte(n)})
	}
	return string([]byte{byte(n%128 + 128)}) + numberByWords(n/128)
}

func textByWords(s string) string { return numberByWords(len(s)) + s }

func bytesByWords(t api.Trace) string {
	s := "\x01" + textByWords(t.Job) + numberByWords(len(t.Needs))
	for _, n := range t.Needs {
		s += textByWords(n.Path)
		if n.Have {
			s += "\x01" + textByWords(n.Content)
		} else {
			s += "\x00"
		}
	}
	s += numberByWords(len(t.Outs))
	for _, o := range t.Outs {
		s += textByWords(o)
	}
	return s
}

// guess reads bytes as if they were a trace's. It goes wrong nowhere: whether its guess is good, its bytes tell.
type guess struct{ rest string }

func (g *guess) number() int {
	n, times := 0, 1
	for len(g.rest) > 0 {
		b := int(g.rest[0])
		g.rest = g.rest[1:]
		n += b % 128 * times
		if b < 128 || times > 1<<20 {
			break
		}
		times *= 128
	}
	return n
}

func (g *guess) text() string {
	n := min(g.number(), len(g.rest))
	s := g.rest[:n]
	g.rest = g.rest[n:]
	return s
}

// getByWords: whose bytes s are, if they are those of a right trace.
func getByWords(s string) (api.Trace, bool) {
	g := guess{s}
	g.number()
	t := api.Trace{Job: g.text()}
	for range min(g.number(), 9) {
		n := lacks(g.text())
		if n.Have = g.number() != 0; n.Have {
			n.Content = g.text()
		}
		t.Needs = append(t.Needs, n)
	}
	for range min(g.number(), 5) {
		t.Outs = append(t.Outs, g.text())
	}
	if len(faults(t)) > 0 || bytesByWords(t) != s {
		return api.Trace{}, false
	}
	return t, true
}

func sameByWords(a, b api.Trace) bool {
	if a.Job != b.Job || len(a.Needs) != len(b.Needs) || len(a.Outs) != len(b.Outs) {
		return false
	}
	for i := range a.Needs {
		if a.Needs[i].Path != b.Needs[i].Path || a.Needs[i].Have != b.Needs[i].Have || a.Needs[i].Content != b.Needs[i].Content {
			return false
		}
	}
	for i := range a.Outs {
		if a.Outs[i] != b.Outs[i] {
			return false
		}
	}
	return true
}

// isZero: is it a trace of nothing, without lists?
func isZero(t api.Trace) bool { return t.Job == "" && t.Needs == nil && t.Outs == nil }

// checkGet holds Get against the words, and Put of what it answers.
func checkGet(t *testing.T, s string) {
	t.Helper()
	got, e := record.Get(s)
	want, ok := getByWords(s)
	if !ok {
		if !isZero(got) || e != api.ErrBytes {
			t.Errorf("%x: %v, %d, want ErrBytes", s, got, e)
		}
		return
	}
	if !sameByWords(got, want) || e != api.OK || (got.Needs == nil) != (len(want.Needs) == 0) {
		t.Errorf("%x: %v, %d, want %v", s, got, e, want)
	}
	if again, e := record.Put(got); again != s || e != api.OK {
		t.Errorf("%x: put again %x, %d", s, again, e)
	}
}

// checkPut holds Check and Put against the words, and Get of what Put answers.
func checkPut(t *testing.T, x api.Trace) {
	t.Helper()
	wrong := faults(x)
	want, wantE := bytesByWords(x), api.OK
	if len(wrong) > 0 {
		want, wantE = "", api.ErrArg
	}
	if e := record.Check(x); e != wantE {
		t.Errorf("Check of %v: %d (%q)", x, e, wrong)
	}
	s, e := record.Put(x)
	if s != want || e != wantE {
		t.Errorf("Put of %v: %x, %d, want %x (%q)", x, s, e, want, wrong)
	}
	if e != api.OK {
		return
	}
	if back, e := record.Get(s); !sameByWords(back, x) || e != api.OK {
		t.Errorf("Get of %x: %v, %d", s, back, e)
	}
	if len(s) > api.MaxValue {
		t.Errorf("%d bytes of %v", len(s), x)
	}
}

func pick[T any](r *rand.Rand, l ...T) T { return l[r.Intn(len(l))] }

func randomText(r *rand.Rand, most int) string {
	b := make([]byte, pick(r, 0, 1, r.Intn(5), r.Intn(140), most, most+r.Intn(2)*r.Intn(2)))
	r.Read(b)
	return string(b)
}

func randomPath(r *rand.Rand) string {
	if r.Intn(60) == 0 {
		return pick(r, "", ".", "a/..", "A", "a//b", "/a", "a/", repeat(33), repeat(30)+"/"+repeat(30))
	}
	return pick(r, "a", "b", "c", "d", "e", "a/b", "a.b", "...", repeat(32), repeat(28)+"/"+repeat(31), "p"+string(rune('a'+r.Intn(26))))
}

// randomTrace is right more often than not.
func randomTrace(r *rand.Rand) api.Trace {
	t := api.Trace{Job: randomText(r, 512)}
	for range pick(r, 0, 1, 2, r.Intn(8), r.Intn(10)) {
		p := randomPath(r)
		if r.Intn(12) > 0 && slices.ContainsFunc(t.Needs, func(n api.Need) bool { return n.Path == p }) {
			continue
		}
		n := pick(r, lacks(p), has(p, randomText(r, 256)))
		if r.Intn(60) == 0 {
			n.Have = !n.Have
		}
		t.Needs = append(t.Needs, n)
	}
	for range pick(r, 1, 1, 2, 3, 4, r.Intn(6)) {
		t.Outs = append(t.Outs, randomText(r, 256))
	}
	return t
}

// P17.1, P17.2, P17.5, P17.6: random traces, right ones and others, held against the words.
func TestRandomTraces(t *testing.T) {
	r := rand.New(rand.NewSource(17))
	right := 0
	for range 20000 {
		x := randomTrace(r)
		checkPut(t, x)
		if len(faults(x)) == 0 {
			right++
		}
	}
	if right < 7000 || right > 18000 {
		t.Errorf("%d of 20000 are right", right)
	}
}

// spoil changes some bytes by one turn.
func spoil(r *rand.Rand, s string) string {
	b := []byte(s)
	i, j := r.Intn(len(b)), r.Intn(len(b))
	switch r.Intn(6) {
	case 0:
		b[i] = byte(r.Intn(256))
	case 1:
		b[i] += pick[byte](r, 1, 128, 255)
	case 2:
		b = slices.Insert(b, i, byte(r.Intn(4)))
	case 3:
		b = slices.Delete(b, i, i+1)
	case 4:
		b[i], b[j] = b[j], b[i]
	default:
		b = slices.Insert(b, j, b[min(i, j):max(i, j)]...)
	}
	return string(b)
}

// P17.2, P17.5: random traces' bytes, spoilt here and there, held against the words.
func TestRandomBytes(t *testing.T) {
	r := rand.New(rand.NewSource(71))
	right := 0
	for range 30000 {
		x := randomTrace(r)
		if r.Intn(2) == 0 {
			x.Job = x.Job[:min(len(x.Job), 3)]
			for i := range x.Needs {
				x.Needs[i].Content = x.Needs[i].Content[:min(len(x.Needs[i].Content), 2)]
			}
			for i := range x.Outs {
				x.Outs[i] = x.Outs[i][:min(len(x.Outs[i]), 2)]
			}
		}
		s := bytesByWords(x)
		for range r.Intn(3) {
			s = spoil(r, s)
		}
		checkGet(t, s)
		if _, ok := getByWords(s); ok {
			right++
		}
	}
	if right < 5000 || right > 25000 {
		t.Errorf("%d of 30000 are right", right)
	}
}

// P17.2: all bytes of up to six out of five kinds, alone and behind some fronts.
func TestShortBytes(t *testing.T) {
	const kinds = "\x00\x01\x02\x80a"
	right := 0
	var grow func(s string, left int)
	grow = func(s string, left int) {
		checkGet(t, s)
		if _, ok := getByWords(s); ok {
			right++
		}
		for i := 0; i < len(kinds) && left > 0; i++ {
			grow(s+kinds[i:i+1], left-1)
		}
	}
	grow("", 6)
	for _, front := range []string{"\x01\x00\x01", "\x01\x00\x01\x01a", "\x01\x00\x02\x01a\x00", "\x01\x00\x00"} {
		grow(front, 6)
	}
	if right < 100 {
		t.Errorf("%d are right", right)
	}
}
