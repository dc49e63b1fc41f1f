package store_test

import (
	"fmt"
	"testing"

	"brickyard/api"
	"brickyard/disk"
	"brickyard/store"
)

// P8.3

// wantRefused sees to it that the batch is answered the error, that nothing of it is done, and that all goes on.
func wantRefused(t *testing.T, d *disk.Disk, s *store.Store, x state, e api.Errno, batch ...api.Change) {
	t.Helper()
	room := s.Room()
	wantErr(t, "Apply", s.Apply(batch...), e)
	wantRoom(t, s, room)
	wantState(t, d, s, x)
	wantState(t, d, reopened(t, d.Copy()), x)
	wantErr(t, "Apply again", s.Apply(batch...), e)
	if room > 1 {
		apply(t, s, put(6, "on", "x"))
		wantState(t, d, s, x.with(put(6, "on", "x")))
		apply(t, s, gone(6, "on"))
	}
	wantState(t, d, s, x)
	wantRoom(t, s, room)
}

func TestFull(t *testing.T) {
	d, s := fresh(t, 80)
	wantRefused(t, d, s, state{}, api.ErrFull, put(0, "a", text(api.MaxValue)))
	wantRefused(t, d, s, state{}, api.ErrFull, put(0, "a", "x"), put(1, "a", text(11*perPage+1)))
	wantRefused(t, d, s, state{}, api.ErrFull, put(0, "a", text(6*perPage)), gone(1, "a"), put(2, "a", text(6*perPage)))
	whole := put(0, "a", text(12*perPage))
	apply(t, s, whole)
	wantRoom(t, s, 0)
	x := state{}.with(whole)
	wantState(t, d, s, x)
	wantRefused(t, d, s, x, api.ErrFull, put(1, "a", "x"))
	wantRefused(t, d, s, x, api.ErrFull, put(0, "b", text(33)))
	apply(t, s, put(0, "b", text(32)))
	wantRoom(t, s, 0)
	apply(t, s, put(0, "a", text(11*perPage)), gone(0, "b"))
	wantRoom(t, s, 1)
}

// What a batch asks for on its way counts, not what it comes to in the end: what is given back ahead can be asked for
// again, what is given back behind can't.
func TestFullOnTheWay(t *testing.T) {
	d, s := fresh(t, 80)
	x := state{}.with(put(0, "a", text(10*perPage)), put(1, "b", "y"))
	apply(t, s, put(0, "a", text(10*perPage)), put(1, "b", "y"))
	wantRoom(t, s, 1)
	wantRefused(t, d, s, x, api.ErrFull, put(2, "c", text(33)), gone(1, "b"))
	wantRefused(t, d, s, x, api.ErrFull, put(2, "c", "z"), put(3, "c", "z"), gone(2, "c"))
	wantRefused(t, d, s, x, api.ErrFull, put(2, "c", text(5*perPage)), gone(0, "a"))
	batch := []api.Change{gone(1, "b"), put(2, "c", text(33)), gone(2, "c"), put(3, "c", text(238)), put(3, "c", text(1))}
	apply(t, s, batch...)
	wantState(t, d, s, x.with(batch...))
	wantRoom(t, s, 1)
	batch = []api.Change{gone(0, "a"), put(4, "d", text(11*perPage))}
	apply(t, s, batch...)
	wantRoom(t, s, 0)
	wantState(t, d, reopened(t, d), state{}.with(put(3, "c", text(1)), batch[1]))
}

// Three trees of one node each: 59 pages are touched, or 60.
func TestTouched(t *testing.T) {
	d, s := fresh(t, 900)
	apply(t, s, put(4, "a", "x"))
	x := state{}.with(put(4, "a", "x"))
	two := []api.Change{put(0, "a", text(20*perPage-200)), put(1, "a", text(20*perPage-200))}
	wantRefused(t, d, s, x, api.ErrLong, append(two, put(2, "a", text(16*perPage+1)))...)
	wantRefused(t, d, s, x, api.ErrLong, append(two, put(2, "a", text(16*perPage)), put(4, "a", "y"))...)
	wantRefused(t, d, s, x, api.ErrLong, put(0, "a", text(api.MaxValue)), put(0, "b", text(api.MaxValue)), put(0, "c", text(api.MaxValue)))
	batch := append(two, put(2, "a", text(16*perPage)))
	apply(t, s, batch...)
	x = x.with(batch...)
	wantState(t, d, s, x)
	wantState(t, d, reopened(t, d), x)
	wantRefused(t, d, open(t, d), x, api.ErrLong, gone(0, "a"), gone(1, "a"), gone(2, "a"), gone(4, "a"))
	s = open(t, d)
	apply(t, s, gone(0, "a"), gone(1, "a"), gone(2, "a"))
	wantState(t, d, s, state{}.with(put(4, "a", "x")))
	wantRoom(t, s, 900-kept-1)
}

// A batch that asks for more pages than are free, and touches more than it may: nothing of it is done.
func TestFullAndTouched(t *testing.T) {
	for _, blocks := range []int{kept + 20, kept + 59, kept + 60, kept + 70, 200, 900} {
		d, s := fresh(t, blocks)
		x := some(t, s)
		var batch []api.Change
		for i := range 50 {
			batch = append(batch, put(i%3, fmt.Sprint(i), text(api.MaxValue)))
		}
		room := s.Room()
		if e := s.Apply(batch...); e != api.ErrFull && e != api.ErrLong {
			t.Errorf("Apply: %d", e)
		}
		wantRoom(t, s, room)
		wantState(t, d, s, x)
		apply(t, s, gone(0, "a"), put(3, "on", "x"))
		wantState(t, d, reopened(t, d), x.with(gone(0, "a"), put(3, "on", "x")))
	}
}

// One change is never refused for what it touches, in trees of this kind.
func TestOneChangeIsNotTooLong(t *testing.T) {
	d, s := fresh(t, 3000)
	var x state
	for i := range 200 {
		c := put(i%2, long(fmt.Sprint(i*37%200)), text(i%40))
		if i%9 == 0 {
			c.Value = text(2400)
		}
		apply(t, s, c)
		x = x.with(c)
	}
	wantState(t, d, s, x)
	for i := range 200 {
		var c api.Change
		switch i % 3 {
		case 0:
			c = put(i%2, long(fmt.Sprint(i)), text(2400-i))
		case 1:
			c = gone(i%2, long(fmt.Sprint(i)))
		case 2:
			c = put(i%2, long(fmt.Sprint(-i)), text(32))
		}
		apply(t, s, c)
		x = x.with(c)
	}
	wantState(t, d, s, x)
}

// P8.8

// fill puts keys in all spaces of an empty store till there is no room, and goes on for some that may be shorter.
func fill(t *testing.T, s *store.Store, length func(i int) int) state {
	t.Helper()
	var done []api.Change
	full := 0
	for i := 0; full < 20; i++ {
		c := put(i%api.MaxRoots, fmt.Sprint(i), text(length(i)))
		switch e := s.Apply(c); e {
		case api.OK:
			done = append(done, c)
		case api.ErrFull:
			full++
		default:
			t.Fatalf("Apply: %d", e)
		}
	}
	return state{}.with(done...)
}

func TestFilledAndCleared(t *testing.T) {
	for name, length := range map[string]func(i int) int{
		"small values": func(i int) int { return i % 20 },
		"chains":       func(i int) int { return i * 61 % 700 },
		"long chains":  func(i int) int { return 2000 + i },
	} {
		for _, blocks := range []int{80, 120, 300} {
			t.Run(fmt.Sprint(name, " ", blocks), func(t *testing.T) {
				t.Parallel()
				d, s := fresh(t, blocks)
				for range 3 {
					x := fill(t, s, length)
					wantState(t, d, s, x)
					s = reopened(t, d)
					wantState(t, d, s, x)
					clearAll(t, s)
					wantState(t, d, s, state{})
					wantRoom(t, s, blocks-kept)
				}
				wantRoom(t, reopened(t, d), blocks-kept)
			})
		}
	}
}

// The keys are taken away again in the order in which they came, in batches of some.
func TestFilledAndDeleted(t *testing.T) {
	for _, part := range []int{1, 2, 5} {
		d, s := fresh(t, 200)
		x := fill(t, s, func(i int) int { return i * 13 % 90 })
		var batch []api.Change
		for i := range 2000 {
			batch = append(batch, gone(i%api.MaxRoots, fmt.Sprint(i)))
			if len(batch) == part || i == 1999 {
				apply(t, s, batch...)
				x = x.with(batch...)
				batch = nil
			}
			if i%100 == 0 {
				wantState(t, d, s, x)
			}
		}
		wantState(t, d, s, state{})
		wantRoom(t, s, 200-kept)
	}
}
