package store_test

import (
	"fmt"
	"hash/maphash"
	"testing"

	"brickyard/api"
	"brickyard/disk"
	"brickyard/store"
)

var seed = maphash.MakeSeed()

// fingerprint is one for what is stable.
func fingerprint(d *disk.Disk) uint64 {
	var h maphash.Hash
	h.SetSeed(seed)
	for i := range d.Size() {
		b, _ := d.Stable(i)
		h.Write(b)
	}
	return h.Sum64()
}

// crashes are copies of d behind crashes that keep all that is dirty, nothing, one block, all but one, some; and tear the
// one that was written last. Each that differs from the others is there once.
func crashes(d *disk.Disk) []*disk.Disk {
	n := len(d.Dirty())
	seen := map[uint64]bool{}
	var l []*disk.Disk
	add := func(kept func(i int) bool) {
		keep := make([]bool, n)
		for i := range keep {
			keep[i] = kept(i)
		}
		for _, torn := range []int{0, 4, 100, 253} {
			c := d.Copy()
			c.Crash(keep, torn)
			if f := fingerprint(c); !seen[f] {
				seen[f] = true
				l = append(l, c)
			}
		}
	}
	add(func(int) bool { return true })
	add(func(int) bool { return false })
	add(func(i int) bool { return i%2 == 0 })
	add(func(i int) bool { return i%3 == 1 })
	for one := range n {
		add(func(i int) bool { return i == one })
		add(func(i int) bool { return i != one })
		add(func(i int) bool { return i < one })
	}
	return l
}

// story is a batch behind the state that some makes.
type story struct {
	name  string
	batch []api.Change
}

var stories = []story{
	{"a put", []api.Change{put(0, "b", "1")}},
	{"a put again", []api.Change{put(0, "c", text(41))}},
	{"a delete", []api.Change{gone(7, "c")}},
	{"in several spaces", []api.Change{gone(0, "c"), put(0, "a", text(100)), put(2, "d", "1"), gone(1, "a"), put(7, "c", "")}},
	{"a space emptied", []api.Change{gone(0, "a"), gone(0, "c"), gone(0, "g"), put(5, "g", text(33))}},
	{"a long value", []api.Change{put(3, long("k"), text(1400)), put(3, "k", "x")}},
	{"a node parted", []api.Change{put(0, long("b"), text(32)), put(0, long("d"), text(32)), put(0, long("e"), text(32))}},
}

// base is a device with the state that some makes.
func base(t *testing.T) (*disk.Disk, state) {
	t.Helper()
	d, s := fresh(t, 90)
	return d, some(t, s)
}

// begun is the store of a copy of the device, behind so many batches that come to nothing: with each of them the log
// has less room, so that with some the batch behind them is one for which there is none.
func begun(t *testing.T, base *disk.Disk, batches int) (*disk.Disk, *store.Store) {
	t.Helper()
	d := base.Copy()
	s := open(t, d)
	for k := range batches {
		apply(t, s, put(6, "begun", fmt.Sprint(k)))
	}
	apply(t, s, gone(6, "begun"))
	return d, s
}

// eachStory hands on a device with the state that some makes, and from how many batches the story is begun.
func eachStory(t *testing.T, look func(t *testing.T, w story, d *disk.Disk, x state, batches int)) {
	for _, w := range stories {
		for _, batches := range []int{0, 28, 30} {
			t.Run(fmt.Sprint(w.name, " behind ", batches), func(t *testing.T) {
				t.Parallel()
				d, x := base(t)
				look(t, w, d, x, batches)
			})
		}
	}
}

// wantOneOf sees to it that the device has one of the states, wholly, and that all goes on from there.
func wantOneOf(t *testing.T, d *disk.Disk, allowed ...state) {
	t.Helper()
	s := open(t, d)
	got := whole(s)
	for _, x := range allowed {
		if !got.equals(x) {
			continue
		}
		wantState(t, d, s, x)
		on := []api.Change{put(4, "on", text(40)), gone(0, "a")}
		apply(t, s, on...)
		wantState(t, d, reopened(t, d), x.with(on...))
		return
	}
	t.Fatalf("it has %v, want one of %v", got, allowed)
}

// P8.6

func TestCutAtEachOperation(t *testing.T) {
	eachStory(t, func(t *testing.T, w story, base *disk.Disk, x state, batches int) {
		cuts := 0
		for cut := 0; ; cut++ {
			d, s := begun(t, base, batches)
			d.Cut(cut)
			e := s.Apply(w.batch...)
			if e == api.OK {
				break
			}
			cuts++
			wantErr(t, "Apply", e, api.ErrPower)
			for _, c := range crashes(d) {
				wantOneOf(t, c, x, x.with(w.batch...))
			}
		}
		if cuts < 3 {
			t.Errorf("%d operations", cuts)
		}
	})
}

// Behind an Apply that answered OK its state is there, whatever crash comes, and whatever is tried without power.
func TestCrashBehindApply(t *testing.T) {
	eachStory(t, func(t *testing.T, w story, base *disk.Disk, x state, batches int) {
		d, s := begun(t, base, batches)
		apply(t, s, w.batch...)
		d.Cut(0)
		for _, c := range crashes(d) {
			wantOneOf(t, c, x.with(w.batch...))
		}
		wantErr(t, "Apply", s.Apply(put(0, "a", "lost")), api.ErrPower)
		for _, c := range crashes(d) {
			wantOneOf(t, c, x.with(w.batch...))
		}
	})
}

// The power goes in an Apply, and again at each operation of the Open behind it.
func TestCutWhileOpened(t *testing.T) {
	eachStory(t, func(t *testing.T, w story, base *disk.Disk, x state, batches int) {
		after := x.with(w.batch...)
		for cut := 0; ; cut++ {
			d, s := begun(t, base, batches)
			d.Cut(cut)
			e := s.Apply(w.batch...)
			d.Crash([]bool{cut%2 > 0, true, true, cut%3 > 0, true, true}, 300)
			was := whole(open(t, d.Copy()))
			if !was.equals(after) && (e == api.OK || !was.equals(x)) {
				t.Fatalf("cut at %d: %v", cut, was)
			}
			wantOpenCut(t, d, was)
			if e == api.OK {
				break
			}
		}
	})
}

// wantOpenCut cuts the power at each operation of the device's Open that writes or flushes, and at some that read.
func wantOpenCut(t *testing.T, d *disk.Disk, x state) {
	t.Helper()
	for cut := 0; ; cut++ {
		c := d.Copy()
		c.Cut(cut)
		s, e := store.Open(c)
		if e == api.OK {
			return
		}
		if s != nil || e != api.ErrPower {
			t.Fatalf("Open: %v, %d", s, e)
		}
		if len(c.Dirty()) == 0 && cut%16 > 0 {
			continue
		}
		c.Crash([]bool{cut%2 > 0, cut%3 > 0, true, false, true}, cut*7%260)
		if got := whole(open(t, c)); !got.equals(x) {
			t.Fatalf("cut at %d: %v, want %v", cut, got, x)
		}
	}
}

// Batches behind one another, each cut and gone on with behind the crash.
func TestCrashBehindCrash(t *testing.T) {
	for cut := range 14 {
		for keep := range 8 {
			d, x := base(t)
			for round := range 6 {
				s := open(t, d)
				batch := []api.Change{put(round%3, fmt.Sprint(round), text(round*50)), gone(0, "c"), put(1, "a", fmt.Sprint(round, keep))}
				d.Cut(cut + round)
				e := s.Apply(batch...)
				d.Crash([]bool{keep&1 > 0, keep&2 > 0, keep&4 > 0, true}, 120)
				got := whole(open(t, d))
				switch {
				case got.equals(x.with(batch...)):
					x = x.with(batch...)
				case e == api.OK || !got.equals(x):
					t.Fatalf("cut at %d: %d, %v behind %v", cut, e, got, x)
				}
			}
			wantState(t, d, open(t, d), x)
		}
	}
}

// The power goes in a Clear: the least keys are gone, each wholly.
func TestCutInClear(t *testing.T) {
	base, s := fresh(t, 120)
	x := some(t, s)
	for i := range 12 {
		c := put(2, fmt.Sprintf("%02d", i), text(i*40))
		apply(t, s, c)
		x = x.with(c)
	}
	for cut := 0; ; cut++ {
		d := base.Copy()
		s := open(t, d)
		d.Cut(cut)
		e := s.Clear(2)
		for i, c := range crashes(d) {
			s := open(t, c)
			n, f := s.Count(2)
			wantErr(t, "Count", f, api.OK)
			want := x
			for k := range 12 - n {
				want = want.with(gone(2, fmt.Sprintf("%02d", k)))
			}
			if i == 0 {
				wantState(t, c, s, want)
			} else if got := whole(s); !got.equals(want) {
				t.Fatalf("cut at %d: %v", cut, got)
			}
		}
		if e == api.OK {
			wantCount(t, s, 2, 0)
			return
		}
		wantErr(t, "Clear", e, api.ErrPower)
	}
}
