package store_test

import (
	"fmt"
	"maps"
	"slices"
	"testing"

	"brickyard/api"
	"brickyard/disk"
	"brickyard/store"
)

var faults = []api.Errno{api.ErrFull, api.ErrIO}

// eachFault lets the story's Apply meet faults on some operations behind one another, from each of its operations on, and
// hands on the device, whose faults may not all have passed, and the store.
func eachFault(t *testing.T, inARow int, look func(t *testing.T, w story, d *disk.Disk, s *store.Store, x state)) {
	t.Helper()
	eachStory(t, func(t *testing.T, w story, base *disk.Disk, x state, batches int) {
		for _, fault := range faults {
			met := 0
			for at := 0; ; at++ {
				d, s := begun(t, base, batches)
				room, ops := s.Room(), d.Ops()
				for i := range inARow {
					d.Fail(at+i, faults[(i+int(fault))%2])
				}
				e := s.Apply(w.batch...)
				if d.Ops() <= ops+at {
					wantErr(t, "a fault behind the call", e, api.OK)
					break
				}
				met++
				wantErr(t, fmt.Sprint("a fault at ", at), e, faults[int(fault)%2])
				wantRoom(t, s, room)
				look(t, w, d, s, x)
			}
			if met < 3 {
				t.Errorf("%d faults", met)
			}
		}
	})
}

// passed makes operations of the device till no fault of a row lies ahead.
func passed(d *disk.Disk, inARow int) {
	for range inARow {
		d.Read(0)
	}
}

// P8.3, P8.6: a fault ends the batch: the state is what it was, and the next batch goes on as if there had been none.
func TestFaultInApply(t *testing.T) {
	eachFault(t, 1, func(t *testing.T, w story, d *disk.Disk, s *store.Store, x state) {
		wantState(t, d, s, x)
		wantState(t, d, reopened(t, d.Copy()), x)
		next := []api.Change{put(4, "next", text(40)), gone(0, "a")}
		apply(t, s, next...)
		wantState(t, d, s, x.with(next...))
		wantState(t, d, reopened(t, d), x.with(next...))
	})
}

func TestFaultAndTheSameBatchAgain(t *testing.T) {
	eachFault(t, 1, func(t *testing.T, w story, d *disk.Disk, s *store.Store, x state) {
		apply(t, s, w.batch...)
		wantState(t, d, s, x.with(w.batch...))
		wantState(t, d, reopened(t, d), x.with(w.batch...))
	})
}

// Faults behind one another, so that they also lie on what undoes the batch: nothing of it is ever seen.
func TestFaultsInARow(t *testing.T) {
	for _, inARow := range []int{2, 3, 4, 6} {
		eachFault(t, inARow, func(t *testing.T, w story, d *disk.Disk, s *store.Store, x state) {
			wantOldOrFaults(t, s, x, faults...)
			passed(d, inARow)
			wantState(t, d, s, x)
			next := []api.Change{put(4, "next", text(40)), gone(0, "a")}
			apply(t, s, next...)
			wantState(t, d, s, x.with(next...))
			wantState(t, d, reopened(t, d), x.with(next...))
		})
	}
}

// The next batch comes at once behind the faults, without a look at the state.
func TestFaultsInARowAndABatchAtOnce(t *testing.T) {
	for _, inARow := range []int{2, 3, 4, 6} {
		eachFault(t, inARow, func(t *testing.T, w story, d *disk.Disk, s *store.Store, x state) {
			next := []api.Change{put(4, "next", text(40)), gone(0, "a")}
			room := s.Room()
			for s.Apply(next...) != api.OK {
				wantRoom(t, s, room)
			}
			passed(d, inARow)
			wantState(t, d, s, x.with(next...))
			wantState(t, d, reopened(t, d), x.with(next...))
		})
	}
}

// wantOldOrFaults asks each call: it answers what the state says, or one of these errors, and From less.
func wantOldOrFaults(t *testing.T, s *store.Store, x state, faults ...api.Errno) {
	t.Helper()
	isFault := func(e api.Errno) bool { return slices.Contains(faults, e) }
	for i, space := range x {
		keys := slices.Sorted(maps.Keys(space))
		at := ""
		for n := range len(keys) + 1 {
			k, v, e := s.Next(i, at)
			switch {
			case isFault(e) && k+v == "":
			case n == len(keys) && e == api.ErrNone && k+v == "":
			case n == len(keys) || k != keys[n] || v != space[k] || e != api.OK:
				t.Fatalf("Next(%d, %q): %q, %d, want %v", i, at, k, e, x)
			}
			if n < len(keys) {
				at = keys[n] + "\x00"
			}
		}
		n := 0
		for k, v := range s.From(i, "") {
			if n == len(keys) || keys[n] != k || space[k] != v {
				t.Fatalf("From(%d): %q, want %v", i, k, x)
			}
			n++
		}
		if n, e := s.Count(i); !isFault(e) && n != len(keys) || isFault(e) && n != 0 {
			t.Fatalf("Count(%d): %d, %d, want %v", i, n, e, x)
		}
		for _, k := range []string{"a", "b", "c", "d", "g", "k"} {
			want, is := space[k]
			v, e := s.Get(i, k)
			switch {
			case isFault(e) && v == "":
			case is && (v != want || e != api.OK), !is && (v != "" || e != api.ErrNone):
				t.Fatalf("Get(%d, %q): %q, %d, want %v", i, k, v, e, x)
			}
		}
	}
}

// What is wrong with a call is answered ahead of a fault.
func TestWrongCallsBehindFaults(t *testing.T) {
	base, _ := base(t)
	for at := 0; ; at++ {
		d, s := begun(t, base, 0)
		for i := range 400 {
			d.Fail(at+i, api.ErrIO)
		}
		if s.Apply(put(0, "a", text(200)), put(2, "d", "1")) == api.OK {
			break
		}
		wantNoGet(t, s, 8, "", api.ErrRange)
		wantNoGet(t, s, 0, "", api.ErrArg)
		wantNoNext(t, s, -1, "", api.ErrRange)
		wantNoCount(t, s, 8, api.ErrRange)
		wantErr(t, "Apply", s.Apply(put(0, "", "x")), api.ErrArg)
		wantErr(t, "Apply", s.Apply(put(0, "k", text(4609))), api.ErrLong)
		wantErr(t, "Apply", s.Apply(), api.OK)
		wantErr(t, "Clear", s.Clear(8), api.ErrRange)
	}
}

// Without power, ahead of the crash: nothing of the batch is seen.
func TestCutAndNoCrash(t *testing.T) {
	eachStory(t, func(t *testing.T, w story, base *disk.Disk, x state, batches int) {
		for cut := 0; ; cut++ {
			d, s := begun(t, base, batches)
			room := s.Room()
			d.Cut(cut)
			if s.Apply(w.batch...) == api.OK {
				break
			}
			wantRoom(t, s, room)
			wantOldOrFaults(t, s, x, api.ErrPower)
			wantErr(t, "Apply", s.Apply(put(4, "k", "x")), api.ErrPower)
			wantOldOrFaults(t, s, x, api.ErrPower)
			wantRoom(t, s, room)
		}
	})
}

// A batch within From's loop meets faults in a row: From goes on in the state that was, or ends.
func TestFromAndAFailedBatch(t *testing.T) {
	base, x := base(t)
	keys := slices.Sorted(maps.Keys(x[0]))
	for inARow := range 8 {
		for at := range 14 {
			d, s := begun(t, base, 0)
			var got []string
			for k, v := range s.From(0, "") {
				if v != x[0][k] {
					t.Fatalf("%q: %q", k, v)
				}
				got = append(got, k)
				if len(got) > 1 {
					continue
				}
				for i := range inARow + 1 {
					d.Fail(at+i, api.ErrIO)
				}
				e := s.Apply(put(0, "b", "x"), put(0, "d", text(100)), gone(0, "c"), gone(0, "g"))
				if e == api.OK {
					got = keys
					break
				}
				wantErr(t, "Apply", e, api.ErrIO)
			}
			if len(got) == 0 || len(got) > len(keys) || !slices.Equal(got, keys[:len(got)]) {
				t.Fatalf("%d faults at %d: %q", inARow+1, at, got)
			}
			if inARow == 0 && len(got) < len(keys) {
				t.Fatalf("a fault at %d: %q", at, got)
			}
		}
	}
}

// P8.2, P8.5

// great is a device whose space 2 has a tree of some depth, with chains, opened anew so that each page is read from it.
func great(t *testing.T) (*disk.Disk, state) {
	t.Helper()
	d, s := fresh(t, 200)
	x := some(t, s)
	for i := range 24 {
		c := put(2, long(fmt.Sprintf("%02d", i)), text(i*9))
		apply(t, s, c)
		x = x.with(c)
	}
	reopened(t, d)
	return d, x
}

// eachFaultOf lets the call meet a fault at each of its operations; behind each of them it is called again.
func eachFaultOf(t *testing.T, base *disk.Disk, call func(s *store.Store) api.Errno) {
	t.Helper()
	for _, fault := range faults {
		met := 0
		for at := 0; ; at++ {
			d := base.Copy()
			s := open(t, d)
			ops := d.Ops()
			d.Fail(at, fault)
			e := call(s)
			if d.Ops() <= ops+at {
				wantErr(t, "a fault behind the call", e, api.OK)
				break
			}
			met++
			wantErr(t, fmt.Sprint("a fault at ", at), e, fault)
			wantErr(t, "the next call", call(s), api.OK)
		}
		if met < 3 {
			t.Errorf("%d faults", met)
		}
	}
}

func TestReadersMeetFaults(t *testing.T) {
	d, x := great(t)
	key := long("20")
	eachFaultOf(t, d, func(s *store.Store) api.Errno {
		v, e := s.Get(2, key)
		if e != api.OK && v != "" || e == api.OK && v != x[2][key] {
			t.Errorf("Get: %q, %d", v, e)
		}
		return e
	})
	eachFaultOf(t, d, func(s *store.Store) api.Errno {
		k, v, e := s.Next(2, "2")
		if e != api.OK && k+v != "" || e == api.OK && (k != key || v != x[2][key]) {
			t.Errorf("Next: %q, %q, %d", k, v, e)
		}
		return e
	})
	eachFaultOf(t, d, func(s *store.Store) api.Errno {
		n, e := s.Count(2)
		if e != api.OK && n != 0 || e == api.OK && n != len(x[2]) {
			t.Errorf("Count: %d, %d", n, e)
		}
		return e
	})
}

func TestReadersWithoutPower(t *testing.T) {
	d, _ := great(t)
	s := open(t, d)
	d.Cut(0)
	wantNoGet(t, s, 2, long("20"), api.ErrPower)
	wantNoNext(t, s, 2, "", api.ErrPower)
	wantNoCount(t, s, 2, api.ErrPower)
	wantFrom(t, s, 2, "")
	wantErr(t, "Clear", s.Clear(2), api.ErrPower)
}

// From tells the keys up to the first error, and all of them when gone through again.
func TestFromMeetsFaults(t *testing.T) {
	base, x := great(t)
	keys := slices.Sorted(maps.Keys(x[2]))
	short := 0
	for at := 0; ; at++ {
		d := base.Copy()
		s := open(t, d)
		ops := d.Ops()
		d.Fail(at, api.ErrIO)
		all := s.From(2, "")
		var got []string
		for k, v := range all {
			if v != x[2][k] {
				t.Errorf("%q: %d bytes", k, len(v))
			}
			got = append(got, k)
		}
		if len(got) > len(keys) || !slices.Equal(got, keys[:len(got)]) {
			t.Errorf("a fault at %d: %.4q", at, got)
		}
		if len(got) < len(keys) {
			short++
		}
		if d.Ops() <= ops+at {
			break
		}
		wantFrom(t, s, 2, "", keys...)
	}
	if short < len(keys) {
		t.Errorf("%d faults", short)
	}
}

// P8.4: a Clear that meets a fault has deleted the least keys; the next one goes on.
func TestClearMeetsFaults(t *testing.T) {
	base, x := great(t)
	keys := slices.Sorted(maps.Keys(x[2]))
	for _, fault := range faults {
		for at := 0; ; at++ {
			d := base.Copy()
			s := open(t, d)
			ops := d.Ops()
			d.Fail(at, fault)
			e := s.Clear(2)
			if d.Ops() <= ops+at {
				wantErr(t, "a fault behind the call", e, api.OK)
				wantFrom(t, s, 2, "")
				break
			}
			wantErr(t, fmt.Sprint("a fault at ", at), e, fault)
			n, e := s.Count(2)
			wantErr(t, "Count", e, api.OK)
			wantFrom(t, s, 2, "", keys[len(keys)-n:]...)
			if at%10 > 0 {
				continue
			}
			want := x
			want[2] = maps.Clone(x[2])
			for _, k := range keys[:len(keys)-n] {
				delete(want[2], k)
			}
			wantState(t, d, s, want)
			wantState(t, d, reopened(t, d.Copy()), want)
			wantErr(t, "Clear again", s.Clear(2), api.OK)
			want[2] = nil
			wantState(t, d, s, want)
		}
	}
}
