package wal_test

import (
	"testing"

	"brickyard/api"
	"brickyard/disk"
	"brickyard/wal"
)

// P4.7

var faults = []api.Errno{api.ErrFull, api.ErrIO}

// eachFault lets the story's call meet each fault at each of its operations, and hands on the device and the log.
func eachFault(t *testing.T, s story, look func(t *testing.T, d *disk.Disk, l *wal.Log)) {
	t.Helper()
	base := formatted(t, 80)
	for _, fault := range faults {
		for at := 0; ; at++ {
			d := base.Copy()
			l := s.ahead(t, d)
			used := l.Used()
			d.Fail(at, fault)
			before := d.Ops()
			e := s.call(l)
			if d.Ops() <= before+at {
				wantErr(t, "a fault behind the call", e, api.OK)
				break
			}
			if e != fault {
				t.Fatalf("the fault %d at %d: %d", fault, at, e)
			}
			wantUsed(t, l, used)
			look(t, d, l)
		}
	}
}

func eachStory(t *testing.T, look func(t *testing.T, s story, d *disk.Disk, l *wal.Log)) {
	for _, s := range stories() {
		t.Run(s.name, func(t *testing.T) {
			t.Parallel()
			eachFault(t, s, func(t *testing.T, d *disk.Disk, l *wal.Log) { look(t, s, d, l) })
		})
	}
}

func TestPagesStayBehindAFault(t *testing.T) {
	eachStory(t, func(t *testing.T, s story, d *disk.Disk, l *wal.Log) { wantSays(t, l, s.before) })
}

func TestCalledAgainBehindAFault(t *testing.T) {
	eachStory(t, func(t *testing.T, s story, d *disk.Disk, l *wal.Log) {
		wantErr(t, "again", s.call(l), api.OK)
		wantSays(t, l, s.after)
		crash(t, d)
		wantSays(t, open(t, d), s.after)
	})
}

// As much of the log is used as if the call had not been.
func TestUsedBehindAFault(t *testing.T) {
	eachStory(t, func(t *testing.T, s story, d *disk.Disk, l *wal.Log) {
		for range 40 {
			want := l.Used() + 2
			if want > api.LogBlocks {
				want = 2
			}
			commit(t, l, image(11, 6))
			wantUsed(t, l, want)
		}
		crash(t, d)
		wantSays(t, open(t, d), s.before[:11]+"6"+s.before[12:])
	})
}

// A crash ahead of another answer may find the images committed, or not.
func TestCrashBehindAFault(t *testing.T) {
	eachStory(t, func(t *testing.T, s story, d *disk.Disk, l *wal.Log) {
		for _, c := range crashes(d, tornFew) {
			wantOneOf(t, c, []string{s.before, s.after})
		}
	})
}

// Whatever call answers OK behind it: from there on no crash brings the images back.
func TestAnswerBehindAFault(t *testing.T) {
	answers := []struct {
		name string
		call func(l *wal.Log) api.Errno
		page string // what the page 12 has then
	}{
		{"Read", func(l *wal.Log) api.Errno { _, e := l.Read(3); return e }, "0"},
		{"Commit of none", func(l *wal.Log) api.Errno { return l.Commit() }, "0"},
		{"Commit", func(l *wal.Log) api.Errno { return l.Commit(image(12, 7)) }, "7"},
		{"Checkpoint", func(l *wal.Log) api.Errno { return l.Checkpoint() }, "0"},
	}
	for _, a := range answers {
		eachStory(t, func(t *testing.T, s story, d *disk.Disk, l *wal.Log) {
			wantErr(t, a.name, a.call(l), api.OK)
			want := s.before[:12] + a.page + s.before[13:]
			for _, c := range crashes(d, tornFew) {
				wantOneOf(t, c, []string{want})
			}
		})
	}
}

// Without a crash the device may be opened anew: the call that the fault ended was not.
func TestOpenBehindAFault(t *testing.T) {
	eachStory(t, func(t *testing.T, s story, d *disk.Disk, l *wal.Log) {
		again := d.Copy()
		wantSays(t, open(t, again), s.before)
		for _, c := range crashes(again, tornFew) {
			wantOneOf(t, c, []string{s.before})
		}
	})
}

// Nothing of the call is left in the device's cache that a flush would commit.
func TestFlushBehindAFault(t *testing.T) {
	eachStory(t, func(t *testing.T, s story, d *disk.Disk, l *wal.Log) {
		wantErr(t, "Flush", d.Flush(), api.OK)
		wantSays(t, l, s.before)
		crash(t, d)
		wantOneOf(t, d, []string{s.before})
	})
}

// A second fault lies on each of the operations behind the first one; the calls behind that go on.
func TestTwoFaults(t *testing.T) {
	for _, s := range stories() {
		t.Run(s.name, func(t *testing.T) {
			t.Parallel()
			base := formatted(t, 80)
			for first := range 8 {
				for second := first + 1; second < first+5; second++ {
					d := base.Copy()
					l := s.ahead(t, d)
					d.Fail(first, api.ErrIO)
					d.Fail(second, api.ErrFull)
					before := d.Ops()
					e := s.call(l)
					if d.Ops() <= before+first {
						continue
					}
					wantErr(t, "the first fault", e, api.ErrIO)
					twoFaultsBehind(t, s, d, l, before+second)
				}
			}
		})
	}
}

// A Commit that two faults leave in doubt, and a call behind it that a third one ends: whatever that call made stable,
// nothing of the Commit is to be found once another call has answered.
func TestThreeFaults(t *testing.T) {
	for _, s := range stories() {
		t.Run(s.name, func(t *testing.T) {
			t.Parallel()
			base := formatted(t, 80)
			for first := range 5 {
				for third := range 12 {
					d := base.Copy()
					l := s.ahead(t, d)
					d.Fail(first, api.ErrIO)
					d.Fail(first+1, api.ErrIO)
					wantErr(t, "Commit", l.Commit(row(9, 3, 7)...), api.ErrIO)
					d.Fail(third, api.ErrFull)
					want := s.after
					if s.call(l) != api.OK {
						want = s.before
					}
					for l.Commit() != api.OK {
					}
					for _, c := range crashes(d, tornFew) {
						wantOneOf(t, c, []string{want})
					}
				}
			}
		})
	}
}

// twoFaultsBehind lets an Open or a Read meet the fault that lies on the operation second, if it lies ahead.
func twoFaultsBehind(t *testing.T, s story, d *disk.Disk, l *wal.Log, second int) {
	t.Helper()
	again := d.Copy()
	if _, e := wal.Open(again); e != api.OK {
		wantErr(t, "Open", e, api.ErrFull)
		_, e = wal.Open(again)
		wantErr(t, "Open again", e, api.OK)
	}
	crash(t, again)
	wantSays(t, open(t, again), s.before)

	from := d.Ops()
	_, e := l.Read(3)
	if from <= second && second < d.Ops() {
		wantErr(t, "Read", e, api.ErrFull)
		_, e = l.Read(3)
	}
	wantErr(t, "Read without a fault", e, api.OK)
	for _, c := range crashes(d, tornFew) {
		wantOneOf(t, c, []string{s.before})
	}
}

func TestReadMeetsFaults(t *testing.T) {
	for _, fault := range faults {
		d, l := fresh(t, 80)
		commit(t, l, image(3, 1))
		for range 2 {
			for _, page := range []int{3, 4, 13} {
				want, _ := l.Read(page)
				before := d.Ops()
				d.Fail(0, fault)
				b, e := l.Read(page)
				if d.Ops() == before {
					wantErr(t, "Read", e, api.OK)
					wantErr(t, "a fault that was not met", d.Flush(), fault)
				} else if len(b) != 0 || e != fault {
					t.Errorf("Read(%d): %x, %d", page, b, e)
				}
				wantRead(t, l, page, want)
			}
			checkpoint(t, l)
		}
	}
}

func TestOpenMeetsFaults(t *testing.T) {
	for _, ahead := range []func(*testing.T, *disk.Disk) *wal.Log{opened, someUsed, allUsed, carried, roundTheEnd} {
		base := formatted(t, 80)
		want := says(t, ahead(t, base))
		for _, fault := range faults {
			for at := 0; ; at++ {
				d := base.Copy()
				d.Fail(at, fault)
				before := d.Ops()
				l, e := wal.Open(d)
				if d.Ops() <= before+at {
					wantErr(t, "a fault behind Open", e, api.OK)
					break
				}
				if l != nil || e != fault {
					t.Fatalf("Open, the fault %d at %d: %v, %d", fault, at, l, e)
				}
				for _, c := range crashes(d, tornFew) {
					wantOneOf(t, c, []string{want})
				}
				wantOneOf(t, d, []string{want})
			}
		}
	}
}
