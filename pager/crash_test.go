package pager_test

import (
	"hash/maphash"
	"slices"
	"testing"

	"brickyard/api"
	"brickyard/disk"
	"brickyard/pager"
)

var seed = maphash.MakeSeed()

// fingerprint is one for what is stable.
func fingerprint(d *disk.Disk) uint64 {
	var h maphash.Hash
	h.SetSeed(seed)
	for i := range d.Size() {
		b, _ := d.Stable(i)
		h.Write(b)
	}
	return h.Sum64()
}

// crashes are copies of d behind crashes that keep all that is dirty, nothing, one block, all but one, some; and tear the
// one that was written last. Each that differs from the others is there once.
func crashes(d *disk.Disk) []*disk.Disk {
	n := len(d.Dirty())
	seen := map[uint64]bool{}
	var l []*disk.Disk
	add := func(kept func(i int) bool) {
		keep := make([]bool, n)
		for i := range keep {
			keep[i] = kept(i)
		}
		for _, torn := range []int{0, 4, 100, 253} {
			c := d.Copy()
			c.Crash(keep, torn)
			if f := fingerprint(c); !seen[f] {
				seen[f] = true
				l = append(l, c)
			}
		}
	}
	add(func(int) bool { return true })
	add(func(int) bool { return false })
	add(func(i int) bool { return i%2 == 0 })
	add(func(i int) bool { return i%3 == 1 })
	for one := range n {
		add(func(i int) bool { return i == one })
		add(func(i int) bool { return i != one })
		add(func(i int) bool { return i < one })
	}
	return l
}

// story is a transaction behind the state that some makes, and what the device tells behind its Commit.
type story struct {
	name  string
	do    func(t *testing.T, p *pager.Pager)
	after string
}

func stories() []story {
	return []story{
		{"one page put", func(t *testing.T, p *pager.Pager) { put(t, p, 1, 9) }, "9.3.5........ 0:3 7:2 > 4 2 6"},
		{"a root", func(t *testing.T, p *pager.Pager) { setRoot(t, p, 1, 5) }, "1.3.5........ 0:3 1:5 7:2 > 4 2 6"},
		{"a page allotted", func(t *testing.T, p *pager.Pager) { allot(t, p, 4) }, "1.305........ 0:3 7:2 > 2 6"},
		{"new pages allotted", func(t *testing.T, p *pager.Pager) {
			allot(t, p, 4, 2, 6, 7)
			put(t, p, 7, 7)
		}, "1030507...... 0:3 7:2 > 8"},
		{"a page dropped", func(t *testing.T, p *pager.Pager) { drop(t, p, 1) }, "..3.5........ 0:3 7:2 > 1 4 2 6"},
		{"all dropped", func(t *testing.T, p *pager.Pager) { drop(t, p, 5, 1, 3) }, none + " 0:3 7:2 > 3 1 5 4 2 6"},
		{"the stack turned round", func(t *testing.T, p *pager.Pager) {
			allot(t, p, 4, 2)
			drop(t, p, 4, 2)
		}, "1.3.5........ 0:3 7:2 > 2 4 6"},
		{"of all kinds", func(t *testing.T, p *pager.Pager) {
			allot(t, p, 4)
			put(t, p, 4, 4)
			drop(t, p, 1)
			setRoot(t, p, 0, 4)
			setRoot(t, p, 2, 5)
			drop(t, p, 3)
			put(t, p, 5, 6)
		}, "...46........ 0:4 2:5 7:2 > 3 1 2 6"},
		{"all pages", func(t *testing.T, p *pager.Pager) {
			allot(t, p, 4, 2, 6, 7, 8, 9, 10, 11, 12, 13)
			for k := 1; k <= 13; k++ {
				put(t, p, k, 7)
			}
		}, "7777777777777 0:3 7:2 >"},
	}
}

// base is a device with the state that some makes, of whose log so many blocks are used that a Commit of some pages
// makes a Checkpoint ahead, or does not.
func base(t *testing.T, full bool) (*disk.Disk, *pager.Pager) {
	t.Helper()
	d, p := fresh(t, 80)
	some(t, p)
	for k := range byte(28) {
		if !full {
			break
		}
		put(t, p, 1, 1+k%5)
		if k == 27 {
			put(t, p, 1, 1)
		}
		commit(t, p)
	}
	return d, p
}

// begun is a copy of such a device, and a pager in the story's transaction.
func begun(t *testing.T, s story, full bool) (*disk.Disk, *pager.Pager) {
	t.Helper()
	d, p := base(t, full)
	s.do(t, p)
	return d, p
}

func eachStory(t *testing.T, look func(t *testing.T, s story, full bool)) {
	for _, s := range stories() {
		for _, full := range []bool{false, true} {
			name := s.name
			if full {
				name += ", the log being full"
			}
			t.Run(name, func(t *testing.T) {
				t.Parallel()
				look(t, s, full)
			})
		}
	}
}

func TestBase(t *testing.T) {
	for _, full := range []bool{false, true} {
		d, _ := base(t, full)
		wantTells(t, d, someTells)
	}
}

// wantOneOf sees to it that the device tells one of the allowed states, that it stays so, and that all goes on.
func wantOneOf(t *testing.T, d *disk.Disk, allowed ...string) {
	t.Helper()
	got := tells(t, d)
	if !slices.Contains(allowed, got) {
		t.Fatalf("it tells %s, want one of %q", got, allowed)
	}
	p := reopened(t, d)
	wantTells(t, d, got)
	if p.Free() == 0 {
		drop(t, p, 13)
	}
	page, e := p.Allot()
	wantErr(t, "Allot", e, api.OK)
	put(t, p, page, 8)
	setRoot(t, p, 6, page)
	want := says(t, p)
	commit(t, p)
	wantSays(t, reopened(t, d), want)
}

// P5.7

func TestCutAtEachOperation(t *testing.T) {
	eachStory(t, func(t *testing.T, s story, full bool) {
		cuts := 0
		for cut := 0; ; cut++ {
			d, p := begun(t, s, full)
			d.Cut(cut)
			e := p.Commit()
			if e == api.OK {
				break
			}
			wantErr(t, "Commit", e, api.ErrPower)
			for _, c := range crashes(d) {
				wantOneOf(t, c, someTells, s.after)
			}
			cuts++
		}
		if cuts < 3 {
			t.Errorf("%d operations", cuts)
		}
		d, p := begun(t, s, full)
		commit(t, p)
		for _, c := range crashes(d) {
			wantOneOf(t, c, s.after)
		}
	})
}

// The power goes again while the device is opened.
func TestCutWhileOpened(t *testing.T) {
	eachStory(t, func(t *testing.T, s story, full bool) {
		d, p := begun(t, s, full)
		commit(t, p)
		crash(t, d)
		for cut := 0; ; cut++ {
			c := d.Copy()
			c.Cut(cut)
			p, e := pager.Open(c)
			if e == api.OK {
				break
			}
			if p != nil || e != api.ErrPower {
				t.Fatalf("Open: %v, %d", p, e)
			}
			c.Crash([]bool{true, false, true}, 77)
			wantTells(t, c, s.after)
		}
	})
}

// A crash ahead of the Commit finds nothing of the transaction, and so does one behind the Rollback.
func TestCrashWithoutCommit(t *testing.T) {
	eachStory(t, func(t *testing.T, s story, full bool) {
		d, p := begun(t, s, full)
		for _, c := range crashes(d) {
			wantOneOf(t, c, someTells)
		}
		rollback(t, p)
		for _, c := range crashes(d) {
			wantOneOf(t, c, someTells)
		}
	})
}

// Commits behind one another, each cut and gone on with behind the crash: pages are in one of the states alone.
func TestCrashBehindCrash(t *testing.T) {
	for cut := range 12 {
		for keep := range 8 {
			d, _ := base(t, false)
			for range 6 {
				p := open(t, d)
				before := tells(t, d)
				page, e := p.Allot()
				if e == api.ErrFull {
					break
				}
				put(t, p, page, 2)
				allotted := says(t, p)
				if page > 3 {
					drop(t, p, page)
				}
				put(t, p, 3, byte(page%10))
				after := says(t, p)
				d.Cut(cut)
				e = p.Commit()
				d.Crash([]bool{keep&1 > 0, keep&2 > 0, keep&4 > 0}, 120)
				got := says(t, open(t, d))
				if got != after && (e == api.OK || tells(t, d) != before) {
					t.Fatalf("cut at %d: %d, it says %s behind %s and %s", cut, e, got, before, allotted)
				}
			}
		}
	}
}
