package record_test

import (
	"math/rand"
	"slices"
	"testing"

	"brickyard/api"
	"brickyard/record"
)

// neighbours part from the chapter's trace in one thing each. They are right, all of them.
func neighbours() []sample {
	return []sample{
		withJob("another job", 0, "k"),
		withJob("a longer job", 0, "j\x00"),
		withNeeds("another path", 0, has("c", "x"), lacks("b")),
		withNeeds("another last path", 0, has("a", "x"), lacks("c")),
		withNeeds("another content", 0, has("a", "y"), lacks("b")),
		withNeeds("no content", 0, has("a", ""), lacks("b")),
		withNeeds("without Have", 0, lacks("a"), lacks("b")),
		withNeeds("with Have", 0, has("a", "x"), has("b", "")),
		withNeeds("another order", 0, lacks("b"), has("a", "x")),
		withNeeds("a need more", 0, has("a", "x"), lacks("b"), lacks("c")),
		withNeeds("a need less", 0, has("a", "x")),
		withNeeds("its second need alone", 0, lacks("b")),
		withNeeds("none", 0),
		withOuts("another out", 0, "p"),
		withOuts("an empty out", 0, ""),
		withOuts("an out more", 0, "o", ""),
		withOuts("an out twice", 0, "o", "o"),
	}
}

// P17.3: traces that part in one thing each.
func TestSame(t *testing.T) {
	l := append([]sample{{"the chapter's", chapterTrace(), 0}}, neighbours()...)
	l = append(l, withOuts("outs", 0, "o", "p"), withOuts("outs in another order", 0, "p", "o"), withOuts("no outs", 0))
	l = append(l, sample{"nothing", api.Trace{}, 0}, sample{"a content without Have", api.Trace{Needs: []api.Need{{Path: "a", Content: "x"}}}, 0}, sample{"without it", api.Trace{Needs: []api.Need{{Path: "a"}}}, 0}, sample{"with it", api.Trace{Needs: []api.Need{has("a", "x")}}, 0})
	for i, x := range l {
		for j, y := range l {
			if got := record.Same(x.trace, y.trace); got != (i == j) {
				t.Errorf("%s, %s: %v", x.name, y.name, got)
			}
		}
		again := x.trace
		again.Needs, again.Outs = slices.Clone(x.trace.Needs), slices.Clone(x.trace.Outs)
		if !record.Same(x.trace, again) {
			t.Errorf("%s: not the same as a copy", x.name)
		}
	}
}

// P17.3, R3: traces that are not right may be asked too; nil lists and empty ones are one.
func TestSameOfAny(t *testing.T) {
	l := allSamples()
	for _, x := range l {
		for _, y := range l {
			if got, want := record.Same(x.trace, y.trace), sameByWords(x.trace, y.trace); got != want {
				t.Errorf("%s, %s: %v", x.name, y.name, got)
			}
		}
	}
	if !record.Same(api.Trace{}, api.Trace{Needs: []api.Need{}, Outs: []string{}}) || !record.Same(api.Trace{Needs: []api.Need{}}, api.Trace{Outs: []string{}}) {
		t.Error("nil and empty lists are not one")
	}
}

// telling answers a now that tells of these, and what it was asked.
func telling(l ...api.Need) (func(p string) (string, bool), *[]string) {
	var asked []string
	return func(p string) (string, bool) {
		asked = append(asked, p)
		for _, n := range l {
			if n.Path == p {
				return n.Content, n.Have
			}
		}
		return "", false
	}, &asked
}

// checkHolds holds Holds, and what it asks, against the words.
func checkHolds(t *testing.T, x api.Trace, job string, l ...api.Need) {
	t.Helper()
	var wantAsked []string
	n := 0
	if x.Job == job {
		for ; n < len(x.Needs); n++ {
			wantAsked = append(wantAsked, x.Needs[n].Path)
			tells, _ := telling(l...)
			if content, have := tells(x.Needs[n].Path); have != x.Needs[n].Have || content != x.Needs[n].Content {
				break
			}
		}
	}
	now, asked := telling(l...)
	got, ok := record.Holds(x, job, now)
	if got != n || ok != (x.Job == job && n == len(x.Needs)) || !slices.Equal(*asked, wantAsked) {
		t.Errorf("%v of %q and %v: %d, %v, asked %q, want %d, %q", x, job, l, got, ok, *asked, n, wantAsked)
	}
}

// P17.4: the chapter's examples, and what lies near them.
func TestHolds(t *testing.T) {
	for _, x := range []struct {
		job   string
		now   []api.Need
		n     int
		ok    bool
		asked []string
	}{
		{"j", []api.Need{has("a", "x")}, 2, true, []string{"a", "b"}},
		{"j", []api.Need{has("a", "x"), has("b", "y")}, 1, false, []string{"a", "b"}},
		{"j", []api.Need{has("a", "x"), has("b", "")}, 1, false, []string{"a", "b"}},
		{"j", []api.Need{has("a", "y")}, 0, false, []string{"a"}},
		{"j", []api.Need{has("a", "")}, 0, false, []string{"a"}},
		{"j", []api.Need{has("a", "xx")}, 0, false, []string{"a"}},
		{"j", nil, 0, false, []string{"a"}},
		{"j", []api.Need{has("c", "z"), has("a", "x")}, 2, true, []string{"a", "b"}},
		{"k", []api.Need{has("a", "x")}, 0, false, nil},
		{"", []api.Need{has("a", "x")}, 0, false, nil},
		{"j ", []api.Need{has("a", "x")}, 0, false, nil},
	} {
		now, asked := telling(x.now...)
		if n, ok := record.Holds(chapterTrace(), x.job, now); n != x.n || ok != x.ok || !slices.Equal(*asked, x.asked) {
			t.Errorf("%q, %v: %d, %v, asked %q", x.job, x.now, n, ok, *asked)
		}
		checkHolds(t, chapterTrace(), x.job, x.now...)
	}
}

// P17.4: a nil now tells of each path that it has none.
func TestHoldsNilNow(t *testing.T) {
	for _, x := range []struct {
		needs []api.Need
		n     int
		ok    bool
	}{
		{nil, 0, true},
		{manyNeeds(1), 1, true},
		{manyNeeds(8), 8, true},
		{[]api.Need{has("a", "")}, 0, false},
		{[]api.Need{lacks("a"), has("b", ""), lacks("c")}, 1, false},
		{[]api.Need{lacks("a"), lacks("b"), has("c", "x")}, 2, false},
		{[]api.Need{lacks("a"), {Path: "b", Content: "x"}}, 1, false},
	} {
		trace := api.Trace{Job: "j", Needs: x.needs, Outs: []string{"o"}}
		if n, ok := record.Holds(trace, "j", nil); n != x.n || ok != x.ok {
			t.Errorf("%v: %d, %v", x.needs, n, ok)
		}
		if n, ok := record.Holds(trace, "k", nil); n != 0 || ok {
			t.Errorf("%v of another job: %d, %v", x.needs, n, ok)
		}
	}
	if n, ok := record.Holds(chapterTrace(), "j", nil); n != 0 || ok {
		t.Errorf("the chapter's: %d, %v", n, ok)
	}
}

// P17.4: contents, and Have, that part at each need in turn.
func TestHoldsPartsAt(t *testing.T) {
	x := greatest()
	for i := range x.Needs {
		for _, turn := range []api.Need{lacks(""), has("", ""), has("", x.Needs[i].Content[1:]), has("", "x"+x.Needs[i].Content[1:]), has("", x.Needs[i].Content+"x")} {
			l := slices.Clone(x.Needs)
			turn.Path = l[i].Path
			l[i] = turn
			now, asked := telling(l...)
			if n, ok := record.Holds(x, x.Job, now); n != i || ok || len(*asked) != i+1 {
				t.Errorf("%d: %d, %v, asked %d", i, n, ok, len(*asked))
			}
			checkHolds(t, x, x.Job, l...)
		}
	}
}

// P17.4: where now tells a content of a path that it has not, that is not the same as none.
func TestHoldsComparesBoth(t *testing.T) {
	odd := api.Need{Path: "a", Content: "x"}
	for _, x := range []struct {
		need, now api.Need
		ok        bool
	}{{lacks("a"), odd, false}, {odd, lacks("a"), false}, {odd, odd, true}, {has("a", "x"), odd, false}, {odd, has("a", "x"), false}} {
		now, _ := telling(x.now)
		if n, ok := record.Holds(api.Trace{Needs: []api.Need{x.need}}, "", now); ok != x.ok || (n == 1) != x.ok {
			t.Errorf("%v, now %v: %d, %v", x.need, x.now, n, ok)
		}
	}
}

// P17.4: traces that are not right are asked need by need, a path that stands twice also twice.
func TestHoldsOfAny(t *testing.T) {
	for _, x := range allSamples() {
		checkHolds(t, x.trace, x.trace.Job)
		checkHolds(t, x.trace, x.trace.Job+"x")
		checkHolds(t, x.trace, x.trace.Job, x.trace.Needs...)
		for i := range x.trace.Needs {
			checkHolds(t, x.trace, x.trace.Job, x.trace.Needs[:i]...)
		}
	}
	twice := api.Trace{Needs: []api.Need{lacks("//"), lacks("a"), lacks("//"), has("a", ""), lacks("b")}}
	now, asked := telling()
	if n, ok := record.Holds(twice, "", now); n != 3 || ok || !slices.Equal(*asked, []string{"//", "a", "//", "a"}) {
		t.Errorf("%d, %v, asked %q", n, ok, *asked)
	}
}

// P17.4: what now tells may change from one question to the next; each is asked just once.
func TestHoldsAsksOnce(t *testing.T) {
	asked := 0
	n, ok := record.Holds(api.Trace{Needs: []api.Need{lacks("a"), has("b", "1"), has("c", "2")}}, "", func(string) (string, bool) {
		asked++
		return []string{"", "1", "2", "3"}[asked-1], asked > 1
	})
	if n != 3 || !ok || asked != 3 {
		t.Errorf("%d, %v, asked %d", n, ok, asked)
	}
}

// P17.7: a trace holds of what it was made of, whatever else is told.
func TestHoldsOfItself(t *testing.T) {
	r := rand.New(rand.NewSource(177))
	for range 5000 {
		x := randomTrace(r)
		if len(faults(x)) > 0 {
			continue
		}
		l := append(slices.Clone(x.Needs), has("elsewhere", "x"), has("", "x"))
		r.Shuffle(len(l), func(i, j int) { l[i], l[j] = l[j], l[i] })
		now, asked := telling(l...)
		if n, ok := record.Holds(x, x.Job, now); n != len(x.Needs) || !ok || len(*asked) != n {
			t.Errorf("%v: %d, %v, asked %q", x, n, ok, *asked)
		}
		back, _ := record.Get(bytesByWords(x))
		if n, ok := record.Holds(back, x.Job, now); n != len(x.Needs) || !ok {
			t.Errorf("%v: %d, %v", back, n, ok)
		}
	}
}

// P17.4: random traces held against what was told of others.
func TestRandomHolds(t *testing.T) {
	r := rand.New(rand.NewSource(174))
	for range 10000 {
		x, y := randomTrace(r), randomTrace(r)
		l := slices.Clone(x.Needs)
		if len(l) > 0 && r.Intn(2) == 0 {
			l[r.Intn(len(l))].Have = r.Intn(2) == 0
			l[r.Intn(len(l))].Content = randomText(r, 256)
		}
		checkHolds(t, x, pick(r, x.Job, x.Job, x.Job, y.Job), append(l, y.Needs...)...)
		if got := record.Same(x, y); got != sameByWords(x, y) {
			t.Errorf("%v, %v: %v", x, y, got)
		}
	}
}
