package btree_test

import (
	"fmt"
	"maps"
	"testing"

	"brickyard/api"
	"brickyard/btree"
	"brickyard/disk"
	"brickyard/pager"
)

var faults = []api.Errno{api.ErrFull, api.ErrIO}

// base is a device with a tree of three nodes' depth at root 0 that was opened anew, so that each page is read from it.
func base(t *testing.T) (*disk.Disk, map[string]string) {
	t.Helper()
	d, p := freshPager(t, 300)
	x := treeOf(t, p, 0)
	want := map[string]string{}
	for i := range 30 {
		k, v := long(fmt.Sprintf("%02d", i)), text(i)
		if i%5 == 0 {
			v = text(600 + i)
		}
		put(t, x, k, v)
		want[k] = v
		commit(t, p)
	}
	if s := wantOnly(t, p, want); s.Depth < 3 {
		t.Fatalf("Shape: %v", s)
	}
	if e := d.Crash(nil, 0); e != api.OK {
		t.Fatalf("Crash: %d", e)
	}
	open(t, d)
	return d, want
}

// story is a call that changes the tree of base, and what it makes of it.
type story struct {
	name       string
	key, value string
	gone       bool
}

var stories = []story{
	{"a key put", "021", "x", false},
	{"a key with a chain put", "021", text(500), false},
	{"a long key put", long("021"), text(32), false},
	{"a value put again", long("07"), "x", false},
	{"a chain put again", long("10"), text(900), false},
	{"a value put again instead of a chain", long("10"), "x", false},
	{"a chain put again instead of a value", long("11"), text(300), false},
	{"a key deleted", long("07"), "", true},
	{"a key with a chain deleted", long("25"), "", true},
	{"the first key deleted", long("00"), "", true},
	{"the last key deleted", long("29"), "", true},
}

func (s story) do(x *btree.Tree) api.Errno {
	if s.gone {
		return x.Delete(s.key)
	}
	return x.Put(s.key, s.value)
}

func (s story) after(want map[string]string) map[string]string {
	after := maps.Clone(want)
	after[s.key] = s.value
	if s.gone {
		delete(after, s.key)
	}
	return after
}

func eachStory(t *testing.T, look func(t *testing.T, s story, d *disk.Disk, want map[string]string)) {
	for _, s := range stories {
		t.Run(s.name, func(t *testing.T) {
			t.Parallel()
			d, want := base(t)
			look(t, s, d, want)
		})
	}
}

// P7.3: a fault at each operation of the call: it is answered, a rollback makes the tree what it was, and all goes on.
func TestChangesMeetFaults(t *testing.T) {
	eachStory(t, func(t *testing.T, s story, base *disk.Disk, want map[string]string) {
		for _, fault := range faults {
			met := 0
			for at := 0; ; at++ {
				d := base.Copy()
				p := open(t, d)
				x := treeOf(t, p, 0)
				before := d.Ops()
				d.Fail(at, fault)
				e := s.do(x)
				if d.Ops() <= before+at {
					wantErr(t, "a fault behind the call", e, api.OK)
					break
				}
				met++
				wantErr(t, fmt.Sprint("a fault at ", at), e, fault)
				rollback(t, p)
				wantOnly(t, p, want)
				wantErr(t, "again", s.do(x), api.OK)
				wantOnly(t, p, s.after(want))
				commit(t, p)
				wantOnly(t, open(t, d), s.after(want))
			}
			if met < 3 {
				t.Errorf("%d faults", met)
			}
		}
	})
}

// The power goes at each operation of the call, and of the Commit behind it: the tree is what it was or, wholly, what
// it was to be.
func TestChangesMeetTheCut(t *testing.T) {
	eachStory(t, func(t *testing.T, s story, base *disk.Disk, want map[string]string) {
		calls, commits := 0, 0
		for at := 0; ; at++ {
			d := base.Copy()
			p := open(t, d)
			d.Cut(at)
			e := s.do(treeOf(t, p, 0))
			if e != api.OK {
				wantErr(t, "the call", e, api.ErrPower)
				calls++
				d.Crash([]bool{true, false, true, true}, 100)
				wantOnly(t, open(t, d), want)
				continue
			}
			if e = p.Commit(); e == api.OK {
				break
			}
			wantErr(t, "Commit", e, api.ErrPower)
			commits++
			for keep := range 4 {
				c := d.Copy()
				c.Crash([]bool{keep&1 > 0, keep&2 > 0, keep&1 > 0, keep&2 > 0, keep&1 > 0}, 100)
				wantOneOf(t, open(t, c), want, s.after(want))
			}
		}
		if calls < 3 || commits < 3 {
			t.Errorf("the power went at %d operations of the call, %d of the Commit", calls, commits)
		}
	})
}

// wantOneOf fails unless the tree has what one of both maps has.
func wantOneOf(t *testing.T, p *pager.Pager, a, b map[string]string) {
	t.Helper()
	got := map[string]string{}
	for k, v := range treeOf(t, p, 0).From("") {
		got[k] = v
	}
	if !maps.Equal(got, a) {
		wantOnly(t, p, b)
		return
	}
	wantOnly(t, p, a)
}

// A Commit that a fault ends is rolled back, or called again.
func TestCommitMeetsFaults(t *testing.T) {
	eachStory(t, func(t *testing.T, s story, base *disk.Disk, want map[string]string) {
		for at := 0; ; at++ {
			d := base.Copy()
			p := open(t, d)
			x := treeOf(t, p, 0)
			wantErr(t, "the call", s.do(x), api.OK)
			d.Fail(at, api.ErrIO)
			before := d.Ops()
			e := p.Commit()
			if d.Ops() <= before+at {
				wantErr(t, "a fault behind the Commit", e, api.OK)
				break
			}
			wantErr(t, "Commit", e, api.ErrIO)
			wantOnly(t, p, s.after(want))
			if at%2 == 0 {
				commit(t, p)
				wantOnly(t, open(t, d), s.after(want))
				continue
			}
			rollback(t, p)
			wantOnly(t, p, want)
			wantOnly(t, open(t, d), want)
		}
	})
}

// P7.2, P7.4, P7.5: faults that those meet who only ask; nothing else has to be done for the next call.
func TestQuestionsMeetFaults(t *testing.T) {
	base, want := base(t)
	far := "29\xff"
	for name, ask := range map[string]func(x *btree.Tree) (string, api.Errno){
		"Get":             func(x *btree.Tree) (string, api.Errno) { return x.Get(long("07")) },
		"Get of a chain":  func(x *btree.Tree) (string, api.Errno) { return x.Get(long("10")) },
		"Get of none":     func(x *btree.Tree) (string, api.Errno) { return x.Get("07") },
		"Next":            func(x *btree.Tree) (string, api.Errno) { return next(x, "07") },
		"Next of a chain": func(x *btree.Tree) (string, api.Errno) { return next(x, "10") },
		"Next of none":    func(x *btree.Tree) (string, api.Errno) { return next(x, far) },
		"Delete of none":  func(x *btree.Tree) (string, api.Errno) { return "", x.Delete("07") },
		"Shape": func(x *btree.Tree) (string, api.Errno) {
			s, e := x.Shape()
			if s == (api.Shape{}) {
				return "", e
			}
			return fmt.Sprint(s), e
		},
	} {
		for _, fault := range append(faults, api.ErrPower) {
			p := open(t, base.Copy())
			right, rightErr := ask(treeOf(t, p, 0))
			met := 0
			for at := 0; ; at++ {
				d := base.Copy()
				p := open(t, d)
				x := treeOf(t, p, 0)
				before := d.Ops()
				if fault == api.ErrPower {
					d.Cut(at)
				} else {
					d.Fail(at, fault)
				}
				got, e := ask(x)
				if d.Ops() <= before+at {
					break
				}
				met++
				if got != "" || e != fault {
					t.Errorf("%s, the fault %d at %d: %q, %d", name, fault, at, got, e)
				}
				if fault == api.ErrPower {
					d.Crash(nil, 0)
					p = open(t, d)
					x = treeOf(t, p, 0)
				}
				if got, e := ask(x); got != right || e != rightErr {
					t.Errorf("%s, again: %q, %d, want %q, %d", name, got, e, right, rightErr)
				}
				if p.Touched() != 0 {
					t.Errorf("%s: %d pages are touched", name, p.Touched())
				}
			}
			if met < 3 {
				t.Errorf("%s: %d faults", name, met)
			}
		}
	}
	wantOnly(t, open(t, base), want)
}

func next(x *btree.Tree, from string) (string, api.Errno) {
	k, v, e := x.Next(from)
	return k + v, e
}

// From tells the keys up to the first error.
func TestFromMeetsFaults(t *testing.T) {
	base, want := base(t)
	last := 0
	for at := 0; ; at++ {
		d := base.Copy()
		x := treeOf(t, open(t, d), 0)
		before := d.Ops()
		d.Fail(at, api.ErrIO)
		n := 0
		for k, v := range x.From("") {
			if k != long(fmt.Sprintf("%02d", n)) || v != want[k] {
				t.Fatalf("%d: %q", n, k)
			}
			n++
		}
		if at == 0 && n > 0 || n < last || n > last+1 {
			t.Errorf("a fault at %d: %d keys behind %d", at, n, last)
		}
		last = n
		if d.Ops() <= before+at {
			break
		}
	}
	if last != len(want) {
		t.Errorf("%d keys, want %d", last, len(want))
	}
}

// Of two errors the first in the chapter's order is answered.
func TestErrorsInOrder(t *testing.T) {
	base, _ := base(t)
	d := base.Copy()
	p := open(t, d)
	x := treeOf(t, p, 0)
	d.Cut(0)
	wantNoGet(t, x, "", api.ErrArg)
	wantNoGet(t, x, text(api.MaxKey+1), api.ErrArg)
	wantNoGet(t, x, "none", api.ErrPower)
	wantErr(t, "Put", x.Put("", text(api.MaxValue+1)), api.ErrArg)
	wantErr(t, "Put", x.Put("a", text(api.MaxValue+1)), api.ErrLong)
	wantErr(t, "Put", x.Put("a", text(api.MaxValue)), api.ErrPower)
	wantErr(t, "Delete", x.Delete(""), api.ErrArg)
	wantErr(t, "Delete", x.Delete("none"), api.ErrPower)
	wantNoNext(t, x, "z", api.ErrPower)
	wantNoShape(t, x, api.ErrPower)
	if y, e := btree.New(p, 0); y == nil || e != api.OK {
		t.Errorf("New: %v, %d", y, e)
	}
	empty := treeOf(t, p, 1)
	wantNoGet(t, empty, "a", api.ErrNone)
	wantShape(t, empty, 0, 0, 0, 0)
	for k := range x.From("") {
		t.Errorf("From: %q", k)
	}
}
