package record_test

import (
	"slices"
	"testing"

	"brickyard/api"
	"brickyard/record"
)

// roomy is a trace with room behind its lists' ends.
func roomy(x api.Trace) api.Trace {
	x.Needs = append(make([]api.Need, 0, 12), x.Needs...)
	x.Outs = append(make([]string, 0, 12), x.Outs...)
	return x
}

// whole is a trace with all that stands behind its lists' ends, in lists of its own.
func whole(x api.Trace) api.Trace {
	x.Needs = slices.Clone(x.Needs[:cap(x.Needs)])
	x.Outs = slices.Clone(x.Outs[:cap(x.Outs)])
	return x
}

// scribble writes over a trace's lists, and over the room behind their ends.
func scribble(x api.Trace) {
	for i := range x.Needs[:cap(x.Needs)] {
		x.Needs[:cap(x.Needs)][i] = has("scribbled", "scribbled")
	}
	for i := range x.Outs[:cap(x.Outs)] {
		x.Outs[:cap(x.Outs)][i] = "scribbled"
	}
}

// R3: what was handed in stays as it was, the room behind the lists' ends too.
func TestHandedInStays(t *testing.T) {
	for _, s := range allSamples() {
		x, y := roomy(s.trace), roomy(chapterTrace())
		wasX, wasY := whole(x), whole(y)
		record.Check(x)
		record.Put(x)
		record.Same(x, y)
		record.Same(x, roomy(s.trace))
		now, _ := telling(x.Needs...)
		record.Holds(x, x.Job, now)
		record.Holds(x, "", now)
		record.Holds(x, x.Job, nil)
		if !sameByWords(whole(x), wasX) || !sameByWords(whole(y), wasY) {
			t.Errorf("%s: %v, %v", s.name, x, y)
		}
	}
}

// R3: what was handed in, written over, changes no answer.
func TestHandedInWrittenOver(t *testing.T) {
	x := roomy(chapterTrace())
	s, _ := record.Put(x)
	scribble(x)
	if again, e := record.Put(chapterTrace()); s != chapterBytes || again != chapterBytes || e != api.OK {
		t.Errorf("%x, %x, %d", s, again, e)
	}
}

// R3: what was answered is new: written over, it changes neither a later answer nor an earlier one, and one list not the other.
func TestAnswersWrittenOver(t *testing.T) {
	for _, x := range rightSamples() {
		s := bytesByWords(x.trace)
		one, _ := record.Get(s)
		other, _ := record.Get(s)
		scribble(one)
		if again, e := record.Get(s); !sameByWords(other, x.trace) || !sameByWords(again, x.trace) || e != api.OK {
			t.Errorf("%s: %v, %v", x.name, other, again)
		}
		half, _ := record.Get(s)
		outs := half.Outs
		half.Outs = nil
		scribble(half)
		if !slices.Equal(outs, x.trace.Outs) {
			t.Errorf("%s: outs %q", x.name, outs)
		}
	}
}

// R5: the same is answered again, also behind other calls that went wrong.
func TestAnswersAgain(t *testing.T) {
	for range 3 {
		for _, x := range rightSamples() {
			record.Get(bytesByWords(x.trace) + "\x00")
			record.Put(api.Trace{})
			checkPut(t, x.trace)
			checkGet(t, bytesByWords(x.trace))
		}
	}
}
