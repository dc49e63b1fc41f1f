package pager_test

import (
	"sync/atomic"
	"testing"

	"brickyard/api"
	"brickyard/disk"
	"brickyard/pager"
)

// eachFault lets the Commit of the story's transaction meet each fault at each of its operations, and hands on the
// device and the pager, whose transaction stays.
func eachFault(t *testing.T, look func(t *testing.T, s story, d *disk.Disk, p *pager.Pager)) {
	t.Helper()
	eachStory(t, func(t *testing.T, s story, full bool) {
		for _, fault := range faults {
			for at := 0; ; at++ {
				d, p := begun(t, s, full)
				touched, free := p.Touched(), p.Free()
				d.Fail(at, fault)
				before := d.Ops()
				e := p.Commit()
				if d.Ops() <= before+at {
					wantErr(t, "a fault behind the call", e, api.OK)
					break
				}
				if e != fault {
					t.Fatalf("the fault %d at %d: %d", fault, at, e)
				}
				wantCount(t, "Touched", p.Touched(), touched)
				wantCount(t, "Free", p.Free(), free)
				look(t, s, d, p)
			}
		}
	})
}

// P5.6

func TestTransactionStaysBehindAFault(t *testing.T) {
	eachFault(t, func(t *testing.T, s story, d *disk.Disk, p *pager.Pager) {
		if got := says(t, p); len(s.after) < len(got) || s.after[:len(got)] != got {
			t.Errorf("it says %s, want %s", got, s.after)
		}
	})
}

func TestRollbackBehindAFault(t *testing.T) {
	eachFault(t, func(t *testing.T, s story, d *disk.Disk, p *pager.Pager) {
		rollback(t, p)
		wantSays(t, p, someSays)
		for _, c := range crashes(d) {
			wantOneOf(t, c, someTells)
		}
		s.do(t, p)
		commit(t, p)
		crash(t, d)
		wantOneOf(t, d, s.after)
	})
}

func TestCommitAgainBehindAFault(t *testing.T) {
	eachFault(t, func(t *testing.T, s story, d *disk.Disk, p *pager.Pager) {
		commit(t, p)
		for _, c := range crashes(d) {
			wantOneOf(t, c, s.after)
		}
	})
}

// The transaction goes on behind a fault, and is committed wholly.
func TestMoreBehindAFault(t *testing.T) {
	eachFault(t, func(t *testing.T, s story, d *disk.Disk, p *pager.Pager) {
		if p.Free() == 0 {
			drop(t, p, 6)
		}
		page, e := p.Allot()
		wantErr(t, "Allot", e, api.OK)
		put(t, p, page, 8)
		setRoot(t, p, 4, page)
		want := says(t, p)
		commit(t, p)
		wantSays(t, reopened(t, d), want)
	})
}

// P5.7

func TestCrashBehindAFault(t *testing.T) {
	eachFault(t, func(t *testing.T, s story, d *disk.Disk, p *pager.Pager) {
		for _, c := range crashes(d) {
			wantOneOf(t, c, someTells, s.after)
		}
	})
}

// A second fault lies on an operation behind the first one: a Rollback that meets it leaves the transaction; the one
// behind that goes back, for good.
func TestTwoFaults(t *testing.T) {
	var met atomic.Int64
	t.Run("all", func(t *testing.T) {
		eachStory(t, func(t *testing.T, s story, full bool) {
			for first := range 12 {
				for second := first + 1; second < first+4; second++ {
					d, p := begun(t, s, full)
					said, touched := says(t, p), p.Touched()
					begin := d.Ops()
					d.Fail(first, api.ErrIO)
					d.Fail(second, api.ErrFull)
					d.Fail(second+1, api.ErrFull)
					e := p.Commit()
					if d.Ops() <= begin+first {
						break
					}
					wantErr(t, "Commit", e, api.ErrIO)
					for p.Rollback() != api.OK {
						wantCount(t, "Touched", p.Touched(), touched)
						met.Add(1)
					}
					for d.Ops() < begin+second+2 {
						d.Read(0)
					}
					wantSays(t, p, someSays)
					for _, c := range crashes(d) {
						wantOneOf(t, c, someTells)
					}
					s.do(t, p)
					wantSays(t, p, said)
					commit(t, p)
					crash(t, d)
					wantOneOf(t, d, s.after)
				}
			}
		})
	})
	if met.Load() == 0 {
		t.Error("no Rollback met a fault")
	}
}

// P5.3

// Faults at each operation of a Get: it answers them, and the next one answers the page.
func TestGetMeetsAFault(t *testing.T) {
	for _, fault := range faults {
		met := 0
		for at := range 3 {
			d, _ := base(t, false)
			p := reopened(t, d)
			put(t, p, 1, 9)
			before := d.Ops()
			d.Fail(at, fault)
			b, e := p.Get(3)
			if d.Ops() <= before+at {
				wantErr(t, "Get", e, api.OK)
				continue
			}
			met++
			if len(b) > 0 || e != fault {
				t.Errorf("Get: %x, %d", b, e)
			}
			wantCount(t, "Touched", p.Touched(), 1)
			wantGet(t, p, 3, of(3))
			wantSays(t, p, "9.3.5........ 0:3 7:2")
			rollback(t, p)
			commit(t, p)
			wantTells(t, d, someTells)
		}
		if met == 0 {
			t.Error("no Get met a fault")
		}
	}
	d, _ := base(t, false)
	p := reopened(t, d)
	d.Cut(0)
	wantNoGet(t, p, 2, api.ErrNone)
	wantNoGet(t, p, 14, api.ErrRange)
	wantNoGet(t, p, 3, api.ErrPower)
}

// P5.4

// What is wrong with the call is answered ahead of a fault; the calls without device errors answer whatever lies ahead.
func TestCallsMeetNoFault(t *testing.T) {
	for _, e := range faults {
		d, _ := base(t, false)
		p := reopened(t, d)
		for after := range 100 {
			d.Fail(after, e)
		}
		put(t, p, 1, 9)
		drop(t, p, 5)
		setRoot(t, p, 0, 1)
		wantRoot(t, p, 0, 1)
		wantCount(t, "Touched", p.Touched(), 2)
		wantErr(t, "Put", p.Put(1, nil), api.ErrArg)
		wantNoGet(t, p, 2, api.ErrNone)
		wantErr(t, "Commit", p.Commit(), e)
		wantCount(t, "Touched", p.Touched(), 2)
	}
}

// Faults at each operation of an Allot, if it makes any: either it answers them and nothing has changed, or the page.
func TestAllotMeetsAFault(t *testing.T) {
	for _, fault := range faults {
		for at := range 3 {
			d, _ := base(t, false)
			p := reopened(t, d)
			d.Fail(at, fault)
			before := d.Ops()
			page, e := p.Allot()
			if d.Ops() > before+at {
				wantErr(t, "Allot", e, fault)
				wantCount(t, "Allot", page, 0)
				wantCount(t, "Touched", p.Touched(), 0)
				wantCount(t, "Free", p.Free(), 10)
				page, e = p.Allot()
			}
			wantErr(t, "Allot", e, api.OK)
			wantCount(t, "Allot", page, 4)
			for p.Rollback() != api.OK {
			}
			commit(t, p)
			crash(t, d)
			wantTells(t, d, someTells)
		}
	}
}

// P5.1

func TestOpenMeetsAFault(t *testing.T) {
	for _, full := range []bool{false, true} {
		for _, fault := range faults {
			met := 0
			for at := 0; ; at++ {
				d, _ := base(t, full)
				crash(t, d)
				d.Fail(at, fault)
				before := d.Ops()
				p, e := pager.Open(d)
				if d.Ops() <= before+at {
					wantErr(t, "Open", e, api.OK)
					break
				}
				met++
				if p != nil || e != fault {
					t.Fatalf("the fault %d at %d: %v, %d", fault, at, p, e)
				}
				wantTells(t, d, someTells)
				p = open(t, d)
				rollback(t, p)
				allot(t, p, 4)
				commit(t, p)
				crash(t, d)
				wantTells(t, d, "1.305........ 0:3 7:2 > 2 6")
			}
			if met < 67 {
				t.Errorf("%d operations", met)
			}
		}
	}
}
