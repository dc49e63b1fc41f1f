package btree_test

import (
	"fmt"
	"maps"
	"math/rand"
	"slices"
	"strings"
	"testing"

	"brickyard/api"
	"brickyard/btree"
	"brickyard/pager"
)

// P7.3: no page is free.

func TestFull(t *testing.T) {
	p, x := fresh(t, 80)
	put(t, x, "a", "x")
	commit(t, p)
	want := map[string]string{"a": "x"}
	for _, n := range []int{12*perPage + 1, 13 * perPage, api.MaxValue} {
		wantErr(t, "Put", x.Put("b", text(n)), api.ErrFull)
		rollback(t, p)
		wantOnly(t, p, want)
		wantErr(t, "Put", x.Put("a", text(n)), api.ErrFull)
		rollback(t, p)
		wantOnly(t, p, want)
	}
	put(t, x, "a", text(12*perPage))
	wantShape(t, x, 1, 1, 12, 1)
	commit(t, p)
	if p.Free() != 0 {
		t.Fatalf("%d free", p.Free())
	}
	put(t, x, "b", text(api.MaxInline)) // it needs none
	put(t, x, "a", text(12*perPage-1))  // the old one's pages are free for the new one
	commit(t, p)
	want = map[string]string{"a": text(12*perPage - 1), "b": text(api.MaxInline)}
	wantOnly(t, p, want)
	wantErr(t, "Put", x.Put("c", text(api.MaxInline+1)), api.ErrFull)
	rollback(t, p)
	wantOnly(t, p, want)
	remove(t, x, "a", "b")
	commit(t, p)
	wantOnly(t, p, nil)
	put(t, x, "a", text(12*perPage))
	rollback(t, p)
	wantOnly(t, p, nil)
}

// The root's page itself is the one too many.
func TestFullWithoutARoot(t *testing.T) {
	_, p := freshPager(t, 80)
	x, y := treeOf(t, p, 0), treeOf(t, p, 1)
	put(t, x, "a", text(12*perPage))
	commit(t, p)
	wantErr(t, "Put", y.Put("a", ""), api.ErrFull)
	wantNoGet(t, y, "b", api.ErrNone)
	wantErr(t, "Delete", y.Delete("a"), api.ErrNone)
	rollback(t, p)
	wantTree(t, p, 1, nil)
	wantOnly(t, p, map[string]string{"a": text(12 * perPage)})
}

// A pager that is filled key by key: behind each ErrFull and a rollback the tree is what it was, and what is deleted
// makes room.
func TestFilled(t *testing.T) {
	for _, kind := range kinds {
		p, x := fresh(t, 100)
		want := map[string]string{}
		full := 0
		r := rand.New(rand.NewSource(1))
		for step := range 1200 {
			k, v := kind.key(r.Intn(600)), text(valueLength(r))
			if full%4 == 3 { // a Delete may ask for pages too; it does not where nodes are joined alone
				if e := x.Delete(k); e != api.OK && e != api.ErrNone && e != api.ErrFull {
					t.Fatalf("Delete: %d", e)
				} else if e == api.OK {
					delete(want, k)
					commit(t, p)
					full++
				} else {
					rollback(t, p)
				}
				continue
			}
			switch e := x.Put(k, v); e {
			case api.OK:
				want[k] = v
				commit(t, p)
			case api.ErrFull:
				full++
				rollback(t, p)
			default:
				t.Fatalf("Put: %d", e)
			}
			if step%50 == 0 {
				wantOnly(t, p, want)
			}
		}
		if full < 20 {
			t.Errorf("%s: full %d times", kind.name, full)
		}
		wantOnly(t, p, want)
	}
}

// P7.3: too many pages are touched.

func TestTooManyTouched(t *testing.T) {
	_, p := freshPager(t, 400)
	x, y := treeOf(t, p, 0), treeOf(t, p, 1)
	want := map[string]string{}
	for i := range 60 {
		k := long(fmt.Sprintf("%03d", i))
		put(t, x, k, text(400))
		want[k] = text(400)
		commit(t, p)
	}
	for name, call := range map[string]func() api.Errno{
		"Put":        func() api.Errno { return x.Put("0305", text(300)) },
		"Put again":  func() api.Errno { return x.Put(long("030"), "short") },
		"Put, first": func() api.Errno { return y.Put("a", "") },
		"Delete":     func() api.Errno { return x.Delete(long("017")) },
	} {
		refused := false
		for touched := range api.MaxTouch + 1 {
			for range touched {
				allot(t, p)
			}
			e := call()
			switch {
			case p.Touched() > api.MaxTouch:
				t.Errorf("%s: %d touched", name, p.Touched())
			case e != api.ErrLong && (e != api.OK || refused):
				t.Errorf("%s behind %d touched pages: %d", name, touched, e)
			case touched == 40:
				wantErr(t, name, e, api.OK)
			case touched == api.MaxTouch:
				wantErr(t, name, e, api.ErrLong)
			}
			refused = e == api.ErrLong
			rollback(t, p)
			wantOnly(t, p, want)
			wantTree(t, p, 1, nil)
		}
	}
}

func allot(t *testing.T, p *pager.Pager) {
	t.Helper()
	if _, e := p.Allot(); e != api.OK {
		t.Fatalf("Allot: %d", e)
	}
}

// deepTree is a tree of long keys, so many nodes deep, its nodes as full as they can be, with values of so many bytes
// here and there.
func deepTree(t *testing.T, seed int64, depth, bytes int) (*pager.Pager, *btree.Tree, []string) {
	t.Helper()
	p, x := fresh(t, api.MaxBlocks)
	r := rand.New(rand.NewSource(seed))
	var keys []string
	above := 0 // roots so far: a new one lies above the old one
	for i := 0; ; i++ {
		before, _ := p.Root(0)
		k := fmt.Sprintf("%04d", r.Intn(10000))
		k += strings.Repeat("k", api.MaxKey-4-r.Intn(2)*r.Intn(60))
		if slices.Contains(keys, k) {
			continue
		}
		v := text(r.Intn(33))
		if i%16 == 0 {
			v = text(bytes)
		}
		put(t, x, k, v)
		if after, _ := p.Root(0); after != before {
			above++
		}
		if above > depth {
			rollback(t, p)
			return p, x, keys
		}
		commit(t, p)
		keys = append(keys, k)
	}
}

// anyCall puts or deletes what the die says.
func anyCall(r *rand.Rand, x *btree.Tree, keys []string, bytes int) (string, api.Errno) {
	k := keys[r.Intn(len(keys))]
	v := text([]int{bytes, bytes, 0, 32, 33, r.Intn(bytes)}[r.Intn(6)])
	switch r.Intn(3) {
	case 0:
		return "Delete", x.Delete(k)
	case 1:
		return "Put", x.Put(k, v)
	}
	return "Put of a new key", x.Put(long(fmt.Sprintf("%05d", r.Intn(100000))), v)
}

// One call in a transaction of its own is not refused while no tree is deeper than 6 and no value longer than 2400
// bytes; nor are two while none is deeper than 4 and no value longer than 400.
func TestCallsThatAreNotRefused(t *testing.T) {
	for seed := range int64(2) {
		for _, c := range []struct{ calls, depth, bytes, steps int }{{1, 6, 2400, 400}, {2, 4, 400, 400}, {1, 1, 2400, 50}, {2, 2, 400, 100}} {
			t.Run(fmt.Sprint(c, seed), func(t *testing.T) {
				t.Parallel()
				p, x, keys := deepTree(t, seed, c.depth, c.bytes)
				if s, e := x.Shape(); s.Depth != c.depth || e != api.OK {
					t.Fatalf("Shape: %v, %d", s, e)
				}
				r := rand.New(rand.NewSource(seed))
				most := 0
				for range c.steps {
					for range c.calls {
						if what, e := anyCall(r, x, keys, c.bytes); e != api.OK && e != api.ErrNone {
							t.Fatalf("%s: %d, %d pages are touched", what, e, p.Touched())
						}
						most = max(most, p.Touched())
					}
					if s, _ := x.Shape(); s.Depth > c.depth || r.Intn(3) > 0 {
						rollback(t, p)
					} else {
						commit(t, p)
					}
				}
				t.Logf("at most %d pages are touched", most)
			})
		}
	}
}

// A call that touches n pages is refused just where fewer than n may be touched yet, whichever of them is the one too
// many; a rollback makes the tree what it was.
func TestRefusedAtEachPage(t *testing.T) {
	p, x, keys := deepTree(t, 2, 4, 400)
	want := map[string]string{}
	for k, v := range x.From("") {
		want[k] = v
	}
	for seed := range int64(120) {
		call := func() (string, api.Errno) { return anyCall(rand.New(rand.NewSource(seed)), x, keys, 400) }
		name, e := call()
		n := p.Touched()
		rollback(t, p)
		if e != api.OK {
			continue
		}
		for more := range n + 1 {
			for range api.MaxTouch - n + more {
				allot(t, p)
			}
			_, e := call()
			if (e == api.OK) != (more == 0) || more > 0 && e != api.ErrLong {
				t.Fatalf("%s, which touches %d pages, behind %d: %d", name, n, api.MaxTouch-n+more, e)
			}
			rollback(t, p)
		}
		if seed%20 == 0 {
			wantOnly(t, p, want)
		}
	}
	wantOnly(t, p, want)
}

// A call that takes n free pages answers ErrFull just where fewer are free.
func TestFullAtEachPage(t *testing.T) {
	p, x, keys := deepTree(t, 3, 4, 400)
	want := map[string]string{}
	for k, v := range x.From("") {
		want[k] = v
	}
	for p.Free() > 50 {
		for range min(50, p.Free()-50) {
			allot(t, p)
		}
		commit(t, p)
	}
	met := map[int]int{}
	for seed := range int64(120) {
		call := func() (string, api.Errno) { return anyCall(rand.New(rand.NewSource(seed)), x, keys, 400) }
		before := p.Free()
		name, e := call()
		taken := before - p.Free()
		rollback(t, p)
		if e != api.OK || taken <= 0 {
			continue
		}
		for free := range taken + 1 {
			for p.Free() > free {
				allot(t, p)
			}
			_, e := call()
			if want := [2]api.Errno{api.ErrFull, api.OK}[free/taken]; e != want {
				t.Fatalf("%s, which takes %d pages, %d being free: %d", name, taken, free, e)
			}
			rollback(t, p)
			met[taken-free]++
		}
	}
	if met[1] == 0 || met[2] == 0 || met[3] == 0 {
		t.Errorf("met: %v", met)
	}
	wantTree(t, p, 0, want)
}

// Every key of a deep tree is deleted, each from the whole tree, and each is put again with a longer value.
func TestEachCallOfADeepTree(t *testing.T) {
	p, x, keys := deepTree(t, 9, 6, 2400)
	for i, k := range keys {
		if i%3 > 0 {
			continue
		}
		wantErr(t, "Delete", x.Delete(k), api.OK)
		rollback(t, p)
		wantErr(t, "Put", x.Put(k, text(2400)), api.OK)
		rollback(t, p)
		wantErr(t, "Put", x.Put(k+"\x00", text(2400)), [2]api.Errno{api.OK, api.ErrArg}[len(k)/api.MaxKey])
		rollback(t, p)
	}
	has := map[string]string{}
	for k, v := range x.From("") {
		has[k] = v
	}
	if !slices.Equal(slices.Sorted(maps.Keys(has)), slices.Sorted(slices.Values(keys))) {
		t.Fatal("other keys")
	}
	wantOnly(t, p, has)
}
