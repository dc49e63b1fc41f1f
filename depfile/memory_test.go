package depfile_test

import (
	"slices"
	"testing"

	"brickyard/api"
	"brickyard/depfile"
)

// some is a list of rules with room behind its end, and behind its deps' ends.
func some() []api.DepRule {
	l := make([]api.DepRule, 0, 8)
	for _, r := range []api.DepRule{rule("b", "c", "a", "c"), rule("a", "x"), rule("./b", "d", "./a"), rule("b", "d", "e"), rule("e")} {
		l = append(l, rule(r.Target, append(make([]string, 0, 8), r.Deps...)...))
	}
	return l
}

// rooms is a list of rules with all that stands behind its ends.
func rooms(l []api.DepRule) []api.DepRule {
	var out []api.DepRule
	for _, r := range l[:cap(l)] {
		out = append(out, rule(r.Target, slices.Clone(r.Deps[:cap(r.Deps)])...))
	}
	return out
}

// scribble writes over a list of texts, and over the room behind its end.
func scribble(l []string) {
	l = l[:cap(l)]
	for i := range l {
		l[i] = "scribbled"
	}
}

// R3: what was handed in stays as it was, the room behind the lists' ends too.
func TestHandedInStays(t *testing.T) {
	l := some()
	was := rooms(l)
	depfile.Print(l...)
	depfile.Fold(4, l...)
	depfile.Deps("b", l...)
	depfile.Merge(l...)
	if !same(rooms(l), was) {
		t.Errorf("%q, want %q", rooms(l), was)
	}
}

// R3, R5: what was handed in, written over, changes no answer.
func TestAnswersAreNewMemory(t *testing.T) {
	l := some()
	deps, _ := depfile.Deps("b", l...)
	merged := depfile.Merge(l...)
	wantDeps, wantMerged := depsOf(some()), mergeByWords(some())
	for i := range l {
		scribble(l[i].Deps)
		l[i] = rule("scribbled", "scribbled")
	}
	if !slices.Equal(deps, wantDeps) || !same(merged, wantMerged) {
		t.Errorf("%q %q, want %q %q", deps, merged, wantDeps, wantMerged)
	}
}

// depsOf is what b hangs on, by the words.
func depsOf(l []api.DepRule) []string {
	d, _ := depsByWords("b", l)
	return d
}

// R3, R5: what was answered, written over, changes neither what was handed in, nor a later answer, nor another list of the same one.
func TestAnswersWrittenOver(t *testing.T) {
	const text = "a: b c\nb: c\nc:\nd: a b c d e f g h i\n"
	want, _ := parseByWords(text)
	for i := range want {
		got, _ := depfile.Parse(text)
		scribble(got[i].Deps)
		got[i] = want[i]
		if !same(got, want) {
			t.Errorf("rule %d written over: %q", i, got)
		}
		if again, _ := depfile.Parse(text); !same(again, want) {
			t.Errorf("rule %d written over: later %q", i, again)
		}
	}
	l := some()
	was := rooms(l)
	wantMerged, wantDeps := mergeByWords(l), depsOf(l)
	for i := range wantMerged {
		got := depfile.Merge(l...)
		scribble(got[i].Deps)
		got[i] = wantMerged[i]
		if !same(got, wantMerged) {
			t.Errorf("deps %d written over: %q", i, got)
		}
	}
	deps, _ := depfile.Deps("b", l...)
	scribble(deps)
	if again, _ := depfile.Deps("b", l...); !slices.Equal(again, wantDeps) || !same(rooms(l), was) {
		t.Errorf("%q %q", again, rooms(l))
	}
}
