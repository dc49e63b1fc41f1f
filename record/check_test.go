package record_test

import (
	"slices"
	"strings"
	"testing"

	"brickyard/api"
	"brickyard/record"
)

// sample is a trace, and how many things are wrong with it.
type sample struct {
	name  string
	trace api.Trace
	wrong int
}

// turned is the chapter's trace with one turn.
func turned(name string, wrong int, turn func(x *api.Trace)) sample {
	x := chapterTrace()
	turn(&x)
	return sample{name, x, wrong}
}

// withNeeds is the chapter's trace with other needs.
func withNeeds(name string, wrong int, l ...api.Need) sample {
	return turned(name, wrong, func(x *api.Trace) { x.Needs = l })
}

func withOuts(name string, wrong int, l ...string) sample {
	return turned(name, wrong, func(x *api.Trace) { x.Outs = l })
}

func withJob(name string, wrong int, job string) sample {
	return turned(name, wrong, func(x *api.Trace) { x.Job = job })
}

// manyNeeds are needs of so many paths.
func manyNeeds(n int) []api.Need {
	var l []api.Need
	for i := range n {
		l = append(l, lacks("p/"+strings.Repeat("q", i+1)))
	}
	return l
}

// greatest is the trace whose bytes are the most.
func greatest() api.Trace {
	x := api.Trace{Job: strings.Repeat("\xff", 512)}
	for i := range 8 {
		x.Needs = append(x.Needs, has(repeat(31)+"/"+strings.Repeat("y", 27)+string(rune('a'+i)), strings.Repeat("\x80", 256)))
	}
	for range 4 {
		x.Outs = append(x.Outs, strings.Repeat("\x00", 256))
	}
	return x
}

func rightSamples() []sample {
	return []sample{
		{"the chapter's", chapterTrace(), 0},
		{"the greatest", greatest(), 0},
		{"the least", api.Trace{Outs: []string{""}}, 0},
		withJob("no job", 0, ""),
		withJob("a job of 127 bytes", 0, repeat(127)),
		withJob("a job of 128 bytes", 0, repeat(128)),
		withJob("the longest job", 0, repeat(512)),
		withJob("a job of any bytes", 0, "\x00\xff\n\x80"),
		withNeeds("no needs", 0),
		withNeeds("an empty list of needs", 0, []api.Need{}...),
		withNeeds("one need", 0, lacks("a")),
		withNeeds("the most needs", 0, manyNeeds(8)...),
		withNeeds("no content", 0, has("a", ""), has("b", "")),
		withNeeds("the longest contents", 0, has("a", repeat(256)), has("b", repeat(255))),
		withNeeds("contents of 127 and 128 bytes", 0, has("a", repeat(127)), has("b", repeat(128))),
		withNeeds("the longest path", 0, lacks(repeat(32)+"/"+repeat(27))),
		withNeeds("odd paths", 0, lacks("..."), lacks("a/b/c"), lacks("_"), lacks("-"), lacks("0.1")),
		withNeeds("paths that begin with one another", 0, lacks("a"), lacks("aa"), lacks("a/a"), lacks("a.a")),
		withNeeds("falling paths", 0, lacks("c"), lacks("b"), has("a", "b")),
		withNeeds("contents alike", 0, has("c", "x"), has("b", "x"), has("a", "x")),
		withOuts("an empty out", 0, ""),
		withOuts("the most outs, alike", 0, "x", "x", "x", "x"),
		withOuts("the longest outs", 0, repeat(256), repeat(255)),
	}
}

func wrongSamples() []sample {
	return []sample{
		{"nothing", api.Trace{}, 1},
		withJob("a job of one more", 1, repeat(513)),
		withJob("a huge job", 1, repeat(1<<20)),
		withNeeds("one need more", 1, manyNeeds(9)...),
		withNeeds("very many needs", 1, manyNeeds(31)...),
		withNeeds("needs alike, side by side", 1, lacks("a"), lacks("a"), lacks("b")),
		withNeeds("needs alike, far apart", 1, append([]api.Need{lacks("p/qqqqqqq")}, manyNeeds(7)...)...),
		withNeeds("needs alike but for Have", 1, has("a", ""), lacks("b"), lacks("a")),
		withNeeds("needs alike but for Content", 1, has("a", "x"), has("a", "y")),
		withNeeds("a content without Have", 1, lacks("a"), api.Need{Path: "b", Content: "x"}),
		withNeeds("a byte 0 without Have", 1, api.Need{Path: "b", Content: "\x00"}),
		withNeeds("a content of one more", 1, has("a", repeat(257))),
		withNeeds("a last content of one more", 1, lacks("a"), lacks("b"), has("c", repeat(257))),
		withNeeds("a long content without Have", 2, api.Need{Path: "b", Content: repeat(257)}),
		withOuts("no outs", 1),
		withOuts("an empty list of outs", 1, []string{}...),
		withOuts("one out more", 1, "", "", "", "", ""),
		withOuts("an out of one more", 1, repeat(257)),
		withOuts("a last out of one more", 1, "", "", "", repeat(257)),
		{"all at once", api.Trace{Job: repeat(513), Needs: []api.Need{{Path: "A", Content: repeat(257)}, {Path: "A"}}}, 7},
		{"all with outs", api.Trace{Job: repeat(600), Needs: slices.Repeat([]api.Need{{Path: "..", Have: true, Content: repeat(300)}}, 9), Outs: slices.Repeat([]string{repeat(300)}, 5)}, 62},
		{"no outs and a wrong path", api.Trace{Needs: []api.Need{lacks("/")}}, 2},
	}
}

// noPaths are texts that are no paths, each kind.
func noPaths() []string {
	return []string{"", ".", "..", "/", "a/", "/a", "a//b", "a/./b", "a/../b", "./a", "../a", "a/.", "a/..", "A", "a b", "a\\b", "a:b", "a\x00", "\xff", "a\n", "ä", "a*", "%.o", repeat(33), "a/" + repeat(33), repeat(31) + "/" + repeat(29), "a/" + strings.Repeat("b/", 29) + "c", repeat(1 << 16)}
}

func allSamples() []sample { return append(rightSamples(), wrongSamples()...) }

// P17.1, P17.2: the edges, and wrong inputs.
func TestCheckPut(t *testing.T) {
	for _, x := range allSamples() {
		if l := faults(x.trace); len(l) != x.wrong {
			t.Errorf("%s: the model says %q", x.name, l)
		}
		checkPut(t, x.trace)
		want := api.OK
		if x.wrong > 0 {
			want = api.ErrArg
		}
		if e := record.Check(x.trace); e != want {
			t.Errorf("%s: Check: %d, want %d", x.name, e, want)
		}
		s, e := record.Put(x.trace)
		if e != want || (s == "") != (want != api.OK) {
			t.Errorf("%s: Put: %q, %d, want %d", x.name, s, e, want)
		}
	}
}

// P17.1: a Need's Path that is none, each kind, wherever it stands.
func TestNoPaths(t *testing.T) {
	for _, p := range noPaths() {
		for i := range 8 {
			for _, n := range []api.Need{lacks(p), has(p, ""), has(p, "x")} {
				x := api.Trace{Needs: manyNeeds(8), Outs: []string{""}}
				if e := record.Check(x); e != api.OK {
					t.Fatalf("without it: %d", e)
				}
				x.Needs[i] = n
				if e := record.Check(x); e != api.ErrArg {
					t.Errorf("%q at %d: %d", p, i, e)
				}
				if s, e := record.Put(x); s != "" || e != api.ErrArg {
					t.Errorf("%q at %d: %q, %d", p, i, s, e)
				}
				checkGet(t, bytesByWords(x))
			}
		}
	}
}

// P17.1: two needs of one path, at any two places.
func TestNeedsAlike(t *testing.T) {
	for i := range 8 {
		for j := range i {
			for _, turn := range []func(n *api.Need){func(n *api.Need) {}, func(n *api.Need) { n.Have = true }, func(n *api.Need) { *n = has(n.Path, "x") }} {
				x := api.Trace{Needs: manyNeeds(8), Outs: []string{""}}
				x.Needs[i] = x.Needs[j]
				turn(&x.Needs[i])
				if e := record.Check(x); e != api.ErrArg {
					t.Errorf("%d and %d: %d", i, j, e)
				}
				checkGet(t, bytesByWords(x))
			}
		}
	}
}

// P17.1: the limits, of one part after the other.
func TestLimits(t *testing.T) {
	for _, x := range []struct {
		most int
		make func(n int) api.Trace
	}{
		{512, func(n int) api.Trace { return withJob("", 0, repeat(n)).trace }},
		{8, func(n int) api.Trace { return withNeeds("", 0, manyNeeds(n)...).trace }},
		{256, func(n int) api.Trace { return withNeeds("", 0, has("b", repeat(n)), lacks("a")).trace }},
		{256, func(n int) api.Trace { return withNeeds("", 0, lacks("a"), has("b", repeat(n))).trace }},
		{4, func(n int) api.Trace {
			return withOuts("", 0, append([]string{""}, make([]string, max(n-1, 0))...)...).trace
		}},
		{256, func(n int) api.Trace { return withOuts("", 0, repeat(n), "").trace }},
		{256, func(n int) api.Trace { return withOuts("", 0, "", repeat(n)).trace }},
	} {
		for n := range x.most + 4 {
			want := api.OK
			if n > x.most {
				want = api.ErrArg
			}
			made := x.make(n)
			if e := record.Check(made); e != want {
				t.Errorf("%d of %d: %d", n, x.most, e)
			}
			checkPut(t, made)
			checkGet(t, bytesByWords(made))
		}
	}
}
