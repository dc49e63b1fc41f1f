package wal_test

import (
	"hash/maphash"
	"testing"

	"brickyard/api"
	"brickyard/disk"
	"brickyard/wal"
)

var seed = maphash.MakeSeed()

// fingerprint is one for what is stable.
func fingerprint(d *disk.Disk) uint64 {
	var h maphash.Hash
	h.SetSeed(seed)
	for i := range d.Size() {
		b, _ := d.Stable(i)
		h.Write(b)
	}
	return h.Sum64()
}

// Where the block that was written last is torn: beside the ends, the stamps' ends and the sum; or somewhere.
var (
	tornAll = []int{0, 1, 2, 5, 6, 7, 8, 9, 100, 245, 246, 247, 251, 252, 253, 255, 256}
	tornFew = []int{0, 3, 100, 252}
)

// keeps says which of n dirty blocks a crash keeps: each way there is, if they are few; else all, none, one, all but
// one, and some.
func keeps(n int) [][]bool {
	var l [][]bool
	add := func(kept func(i int) bool) {
		k := make([]bool, n)
		for i := range k {
			k[i] = kept(i)
		}
		l = append(l, k)
	}
	if n <= 4 {
		for bits := range 1 << n {
			add(func(i int) bool { return bits>>i&1 == 1 })
		}
		return l
	}
	for one := range n {
		add(func(i int) bool { return i == one })
		add(func(i int) bool { return i != one })
		add(func(i int) bool { return i < one })
	}
	add(func(i int) bool { return true })
	add(func(i int) bool { return i%2 == 0 })
	add(func(i int) bool { return i%3 == 1 })
	return l
}

// crashes are copies of d behind all kinds of crashes, each that differs from the others once.
func crashes(d *disk.Disk, torns []int) []*disk.Disk {
	seen := map[uint64]bool{}
	var l []*disk.Disk
	for _, keep := range keeps(len(d.Dirty())) {
		for _, torn := range torns {
			c := d.Copy()
			c.Crash(keep, torn)
			if f := fingerprint(c); !seen[f] {
				seen[f] = true
				l = append(l, c)
			}
		}
	}
	return l
}

// behind looks at what crashes of d leave, and at what Opens leave there that are cut at each of their operations, and
// so on, so many Opens deep: it must always be one of the allowed pages.
func behind(t *testing.T, d *disk.Disk, deep int, seen map[uint64]bool, allowed ...string) {
	t.Helper()
	for _, c := range crashes(d, tornFew) {
		if f := fingerprint(c); seen[f] {
			continue
		} else {
			seen[f] = true
		}
		wantOneOf(t, c.Copy(), allowed)
		for cut := 0; deep > 0; cut++ {
			again := c.Copy()
			again.Cut(cut)
			l, e := wal.Open(again)
			if e == api.OK {
				break
			}
			if l != nil || e != api.ErrPower {
				t.Fatalf("Open without power: %v, %d", l, e)
			}
			if len(again.Dirty()) > 0 {
				behind(t, again, deep-1, seen, allowed...)
			}
		}
	}
}

// wantOneOf opens d, sees to it that its pages are of the allowed ones, that they stay so, and that all goes on.
func wantOneOf(t *testing.T, d *disk.Disk, allowed []string) {
	t.Helper()
	got := says(t, open(t, d))
	ok := false
	for _, a := range allowed {
		ok = ok || a == got
	}
	if !ok {
		t.Fatalf("pages %s, want one of %v", got, allowed)
	}
	crash(t, d)
	l := open(t, d)
	wantSays(t, l, got)
	commit(t, l, image(13, 9))
	crash(t, d)
	wantSays(t, open(t, d), got[:13]+"9")
}

// story is what was done ahead of a call, the call, and the pages ahead of it and behind it.
type story struct {
	name          string
	ahead         func(t *testing.T, d *disk.Disk) *wal.Log
	call          func(l *wal.Log) api.Errno
	before, after string
}

func opened(t *testing.T, d *disk.Disk) *wal.Log { t.Helper(); return open(t, d) }

// someUsed has two transactions in its log.
func someUsed(t *testing.T, d *disk.Disk) *wal.Log {
	t.Helper()
	l := open(t, d)
	commit(t, l, image(1, 1), image(2, 1))
	commit(t, l, image(2, 2))
	return l
}

// allUsed has no block of its log left.
func allUsed(t *testing.T, d *disk.Disk) *wal.Log {
	t.Helper()
	l := someUsed(t, d)
	for l.Used() < api.LogBlocks-1 {
		commit(t, l, image(4, byte(l.Used()%5)))
	}
	checkpoint(t, l)
	commit(t, l, image(4, 7), image(5, 7))
	for range 12 {
		commit(t, l, image(4, 3), image(6, 3), image(7, 3), image(8, 3))
	}
	wantUsed(t, l, 63)
	return l
}

// fewLeft has four blocks of its log left.
func fewLeft(t *testing.T, d *disk.Disk) *wal.Log {
	t.Helper()
	l := open(t, d)
	for range 20 {
		commit(t, l, image(1, 1), image(2, 3))
	}
	wantUsed(t, l, 60)
	return l
}

// carried has an empty log, which was used.
func carried(t *testing.T, d *disk.Disk) *wal.Log {
	t.Helper()
	l := someUsed(t, d)
	checkpoint(t, l)
	return l
}

// roundTheEnd has a transaction behind which the log's last block comes.
func roundTheEnd(t *testing.T, d *disk.Disk) *wal.Log {
	t.Helper()
	l := carried(t, d)
	for l.Used() < 56 {
		commit(t, l, image(4, 1))
	}
	checkpoint(t, l)
	commit(t, l, image(5, 2))
	return l
}

// failed has a transaction in its log, and the remains of one that a fault ended at its operation at.
func failed(at int) func(t *testing.T, d *disk.Disk) *wal.Log {
	return func(t *testing.T, d *disk.Disk) *wal.Log {
		t.Helper()
		l := open(t, d)
		commit(t, l, image(1, 1))
		d.Fail(at, api.ErrIO)
		wantErr(t, "Commit that meets a fault", l.Commit(row(2, 3, 8)...), api.ErrIO)
		return l
	}
}

func stories() []story {
	one := func(l *wal.Log) api.Errno { return l.Commit(image(0, 5)) }
	two := func(l *wal.Log) api.Errno { return l.Commit(image(5, 5), image(2, 5)) }
	four := func(l *wal.Log) api.Errno { return l.Commit(row(2, 4, 5)...) }
	check := func(l *wal.Log) api.Errno { return l.Checkpoint() }
	l := []story{
		{"one page", opened, one, noughts, "50000000000000"},
		{"two pages", opened, two, noughts, "00500500000000"},
		{"one page behind others", someUsed, one, "01200000000000", "51200000000000"},
		{"two pages behind others", someUsed, two, "01200000000000", "01500500000000"},
		{"two pages, and none is left", allUsed, two, "01203733300000", "01503533300000"},
		{"four pages, and too few are left", fewLeft, four, "01300000000000", "01555500000000"},
		{"two pages, and the log is empty", carried, two, "01200000000000", "01500500000000"},
		{"two pages round the log's end", roundTheEnd, two, "01201200000000", "01501500000000"},
		{"nothing to carry", opened, check, noughts, noughts},
		{"some to carry", someUsed, check, "01200000000000", "01200000000000"},
		{"much to carry", allUsed, check, "01203733300000", "01203733300000"},
		{"carried already", carried, check, "01200000000000", "01200000000000"},
		{"some to carry round the end", roundTheEnd, check, "01201200000000", "01201200000000"},
	}
	for at := range 5 {
		l = append(l,
			story{"behind a fault, one page", failed(at), one, "01000000000000", "51000000000000"},
			story{"behind a fault, two pages", failed(at), two, "01000000000000", "01500500000000"},
			story{"behind a fault, carried", failed(at), check, "01000000000000", "01000000000000"},
		)
	}
	return l
}

// P4.6

func TestCutAtEachOperation(t *testing.T) {
	base := formatted(t, 80)
	for _, s := range stories() {
		t.Run(s.name, func(t *testing.T) {
			t.Parallel()
			seen, whole := map[uint64]bool{}, map[uint64]bool{}
			for cut := 0; ; cut++ {
				d := base.Copy()
				l := s.ahead(t, d)
				d.Cut(cut)
				if e := s.call(l); e == api.OK {
					break
				} else {
					wantErr(t, "without power", e, api.ErrPower)
				}
				for _, c := range crashes(d, tornAll) {
					wantOneOf(t, c, []string{s.before, s.after})
				}
				behind(t, d, 2, seen, s.before, s.after)
			}
			d := base.Copy()
			if e := s.call(s.ahead(t, d)); e != api.OK {
				t.Fatalf("%d", e)
			}
			behind(t, d, 2, whole, s.after)
		})
	}
}

// The power is cut while the device is opened, the log being full of what is to be carried.
func TestCutWhileOpened(t *testing.T) {
	for _, ahead := range []func(*testing.T, *disk.Disk) *wal.Log{opened, someUsed, allUsed, carried, roundTheEnd} {
		d := formatted(t, 80)
		want := says(t, ahead(t, d))
		crash(t, d)
		behind(t, d, 3, map[uint64]bool{}, want)
	}
}

// Whichever block is torn, and wherever: a transaction of one page is there or is not.
func TestTornAnywhere(t *testing.T) {
	base := formatted(t, 80)
	for cut := range 3 {
		for torn := range api.BlockSize + 1 {
			for keep := range 4 {
				d := base.Copy()
				l := someUsed(t, d)
				d.Cut(cut)
				wantErr(t, "Commit", l.Commit(image(2, 4)), api.ErrPower)
				d.Crash([]bool{keep&1 == 1, keep&2 == 2}, torn)
				wantOneOf(t, d, []string{"01200000000000", "01400000000000"})
			}
		}
	}
	for cut := range 5 {
		for torn := range api.BlockSize + 1 {
			d := base.Copy()
			l := someUsed(t, d)
			d.Cut(cut)
			wantErr(t, "Checkpoint", l.Checkpoint(), api.ErrPower)
			d.Crash(nil, torn)
			wantOneOf(t, d, []string{"01200000000000"})
		}
	}
}

// Transaction behind transaction that a crash ends: what is left of the one is never taken for a part of another one.
func TestCrashBehindCrash(t *testing.T) {
	first := formatted(t, 80)
	l := open(t, first)
	commit(t, l, image(1, 1))
	first.Cut(4)
	l.Commit(row(2, 3, 2)...)
	for _, c := range crashes(first, tornAll) {
		l := open(t, c)
		ahead := says(t, l)
		c.Cut(4)
		wantErr(t, "Commit", l.Commit(row(2, 3, 3)...), api.ErrPower)
		for _, d := range crashes(c, tornFew) {
			after := "01333000000000"
			wantOneOf(t, d, []string{ahead, after})
		}
	}
}

// Pages may look like anything, also like what says that others are committed, and stand at each place of the log: while a
// head is written the one before it is left as it is, which says where the log began behind that.
func TestPagesThatLookLikeOthers(t *testing.T) {
	for n := range 12 {
		for cut := 0; ; cut++ {
			d, l := fresh(t, 140)
			want := make([]int, l.Pages())
			made := 0
			put := func(first, n int) {
				var images []api.Image
				for p := first; p < first+n; p++ {
					made++
					want[p] = made
					images = append(images, api.Image{Page: p, Bytes: content(made)})
				}
				commit(t, l, images...)
			}
			put(0, n+1)
			checkpoint(t, l)
			put(10, 50)
			put(3, 6)
			d.Cut(cut)
			if l.Checkpoint() == api.OK {
				break
			}
			d.Crash(nil, 100)
			l = open(t, d)
			for p, x := range want {
				wantRead(t, l, p, content(x))
			}
		}
	}
}
