package btree_test

import (
	"fmt"
	"math/rand"
	"strings"
	"testing"

	"brickyard/api"
	"brickyard/btree"
	"brickyard/cell"
	"brickyard/pager"
)

// branch is a tree that is written by hand: a leaf with keys, or keys between kids.
type branch struct {
	keys []string
	kids []branch
}

func leaf(keys ...string) branch { return branch{keys: keys} }

func inner(kids []branch, keys ...string) branch { return branch{keys: keys, kids: kids} }

// lay writes the branch, and answers its page.
func lay(t *testing.T, p *pager.Pager, b branch) int {
	t.Helper()
	n := api.Node{Leaf: len(b.kids) == 0}
	for _, k := range b.keys {
		n.Items = append(n.Items, api.Cell{Key: k})
	}
	for _, kid := range b.kids {
		n.Kids = append(n.Kids, lay(t, p, kid))
	}
	page, e := p.Allot()
	wantErr(t, "Allot", e, api.OK)
	layNode(t, p, page, n)
	return page
}

func layNode(t *testing.T, p *pager.Pager, page int, n api.Node) {
	t.Helper()
	b, e := cell.Put(n)
	if e != api.OK {
		t.Fatalf("Put(%v): %d", n, e)
	}
	wantErr(t, "Put", p.Put(page, b), api.OK)
}

func setRoot(t *testing.T, p *pager.Pager, page int) {
	t.Helper()
	wantErr(t, "SetRoot", p.SetRoot(0, page), api.OK)
}

// keysBelow answers the keys of all leaves.
func (b branch) keysBelow() map[string]string {
	m := map[string]string{}
	if len(b.kids) == 0 {
		for _, k := range b.keys {
			m[k] = ""
		}
	}
	for _, kid := range b.kids {
		for k := range kid.keysBelow() {
			m[k] = ""
		}
	}
	return m
}

// of is a key of n bytes that begins with s.
func of(s string, n int) string { return s + strings.Repeat("-", n-len(s)) }

// twoLeaves is an inner node of two leaves, with a key each.
func twoLeaves(s string) branch {
	return inner([]branch{leaf(s + "1"), leaf(s + "2")}, s+"2")
}

// wide is an inner node of four leaves, with a key each, that are parted by long keys.
func wide(s string) branch {
	return inner([]branch{leaf(s + "1"), leaf(s + "2"), leaf(s + "3"), leaf(s + "4")}, long(s+"1"), long(s+"2"), long(s+"3"))
}

// P7.7: an inner node that loses its last key, beside others that are too full to be joined with, takes kids from one
// of them; the key between them then is a longer one, for which there is no room above: that node is parted, or the
// one above it as well.
func TestDeleteThatParts(t *testing.T) {
	for _, c := range []struct {
		name     string
		gone     string
		b        branch
		deeper   bool
		free     int // how many more pages are free behind it
		topBytes int
	}{
		{name: "the one in the middle", gone: "c1", deeper: true, free: -1, topBytes: 240,
			b: inner([]branch{wide("b"), twoLeaves("c"), wide("d"), twoLeaves("e"), twoLeaves("f"), twoLeaves("g")},
				of("c", 63), of("d", 39), of("e", 39), of("f", 40), of("g", 40))},
		{name: "the first one", gone: "a2", deeper: true, free: -1, topBytes: 240,
			b: inner([]branch{twoLeaves("a"), wide("b"), twoLeaves("c"), twoLeaves("d"), twoLeaves("e")},
				of("b", 50), of("c", 58), of("d", 58), of("e", 58))},
		{name: "the last one", gone: "e1", deeper: true, free: -1, topBytes: 240,
			b: inner([]branch{twoLeaves("a"), twoLeaves("b"), twoLeaves("c"), wide("d"), twoLeaves("e")},
				of("b", 58), of("c", 58), of("d", 58), of("e", 50))},
		{name: "one beside which there is room", gone: "c2", free: 2, topBytes: 240,
			b: inner([]branch{wide("b"), twoLeaves("c"), twoLeaves("d"), twoLeaves("e"), twoLeaves("f"), twoLeaves("g")},
				of("c", 63), of("d", 39), of("e", 39), of("f", 40), of("g", 40))},
		{name: "one ahead of which there is room", gone: "c1", free: 2, topBytes: 240,
			b: inner([]branch{twoLeaves("b"), twoLeaves("c"), wide("d"), twoLeaves("e"), twoLeaves("f"), twoLeaves("g")},
				of("c", 39), of("d", 63), of("e", 39), of("f", 40), of("g", 40))},
		{name: "one that leaves room above", gone: "b1", free: 1, topBytes: 70,
			b: inner([]branch{wide("a"), twoLeaves("b")}, of("b", 63))},
		{name: "one of two that are joined", gone: "b1", free: 3, topBytes: 8,
			b: inner([]branch{twoLeaves("a"), twoLeaves("b")}, "b")},
	} {
		p, x := fresh(t, 200)
		setRoot(t, p, lay(t, p, c.b))
		commit(t, p)
		want := c.b.keysBelow()
		before := wantOnly(t, p, want)
		top, _ := p.Root(0)
		if b, _ := p.Get(top); len(strings.TrimRight(string(b), "\x00"))+1 != c.topBytes {
			t.Errorf("%s: the upper node has %d bytes", c.name, len(strings.TrimRight(string(b), "\x00"))+1)
		}
		free := p.Free()
		remove(t, x, c.gone)
		delete(want, c.gone)
		after := wantOnly(t, p, want)
		if p.Free() != free+c.free || (after.Depth > before.Depth) != c.deeper {
			t.Errorf("%s: %v, %d free; then %v, %d free", c.name, before, free, after, p.Free())
		}
	}
}

// Where such a Delete finds no page free it answers that.
func TestDeleteThatPartsWithoutRoom(t *testing.T) {
	p, x := fresh(t, 200)
	b := inner([]branch{twoLeaves("a"), wide("b"), twoLeaves("c"), twoLeaves("d"), twoLeaves("e")}, of("b", 50), of("c", 58), of("d", 58), of("e", 58))
	setRoot(t, p, lay(t, p, b))
	commit(t, p)
	rest := treeOf(t, p, 1)
	for i := 0; p.Free() > 0; i++ {
		put(t, rest, fmt.Sprint(i), text(min(p.Free()*perPage-perPage+1, 4000)))
		commit(t, p)
	}
	wantErr(t, "Delete", x.Delete("a2"), api.ErrFull)
	rollback(t, p)
	wantTree(t, p, 0, b.keysBelow())
	for k := range rest.From("") {
		remove(t, rest, k)
		commit(t, p)
	}
	remove(t, x, "a2")
	wantErr(t, "Get", func() api.Errno { _, e := x.Get("a2"); return e }(), api.ErrNone)
}

// A call touches no page but those that it must: an item that comes or goes where no node is parted or joined, its leaf.
func TestTouched(t *testing.T) {
	full := func(s string) branch { return leaf(long(s+"1"), long(s+"2"), long(s+"3"), of(s+"4", 36)) }
	few := func(s string) branch { return leaf(s+"1", s+"2") }
	for _, c := range []struct {
		name string
		b    branch
		do   func(x *btree.Tree) api.Errno
		want int
	}{
		{"a first key", leaf(), func(x *btree.Tree) api.Errno { return x.Put("a", "") }, 1},
		{"a first chain", leaf(), func(x *btree.Tree) api.Errno { return x.Put("a", text(239)) }, 3},
		{"a key put", inner([]branch{few("a"), few("b")}, "b"), func(x *btree.Tree) api.Errno { return x.Put("b3", "") }, 1},
		{"a shorter value put", inner([]branch{few("a"), full("b"), full("c")}, "b", "c"), func(x *btree.Tree) api.Errno { return x.Put("a1", "") }, 1},
		{"a key deleted", inner([]branch{full("a"), few("b"), full("c")}, "b", "c"), func(x *btree.Tree) api.Errno { return x.Delete("b1") }, 1},
		{"a key deleted, three deep", inner([]branch{inner([]branch{full("a"), few("b"), full("c")}, "b", "c"), twoLeaves("d")}, "d"), func(x *btree.Tree) api.Errno { return x.Delete("b1") }, 1},
		{"a key deleted, leaves joined", inner([]branch{full("a"), few("b"), few("c"), few("d")}, "b", "c", "d"), func(x *btree.Tree) api.Errno { return x.Delete("b1") }, 3},
		{"a key deleted, leaves joined at last", inner([]branch{leaf("a"), leaf("b", "c")}, "b"), func(x *btree.Tree) api.Errno { return x.Delete("c") }, 3},
		{"a key put, a leaf parted", inner([]branch{full("a"), full("b")}, "b"), func(x *btree.Tree) api.Errno { return x.Put(long("b5"), "") }, 3},
		{"a key put, the root parted", full("a"), func(x *btree.Tree) api.Errno { return x.Put(long("a5"), "") }, 3},
	} {
		p, x := fresh(t, 120)
		if len(c.b.keys) > 0 {
			setRoot(t, p, lay(t, p, c.b))
		}
		commit(t, p)
		wantErr(t, c.name, c.do(x), api.OK)
		if p.Touched() != c.want {
			t.Errorf("%s: %d pages are touched, want %d", c.name, p.Touched(), c.want)
		}
	}
}

// A node is parted when its page is full, not ahead of that.
func TestPartedWhenFull(t *testing.T) {
	p, x := fresh(t, 120)
	put(t, x, long("a"), text(32)) // 98 bytes
	put(t, x, long("b"), text(32)) // 196, with the two ahead of the items 198
	put(t, x, of("c", 10), text(30))
	wantShape(t, x, 1, 1, 0, 3)
	put(t, x, of("c", 10), text(29))
	put(t, x, of("c", 10), text(30))
	wantShape(t, x, 1, 1, 0, 3)
	put(t, x, of("c", 10), text(31))
	wantShape(t, x, 2, 3, 0, 3)
	wantOnly(t, p, map[string]string{long("a"): text(32), long("b"): text(32), of("c", 10): text(31)})
	put(t, x, long("d"), text(31)) // b, c and d fill the second leaf
	wantShape(t, x, 2, 3, 0, 4)
	remove(t, x, long("a"))
	wantShape(t, x, 1, 1, 0, 3)
}

// P7.5

func TestShapeOfBranches(t *testing.T) {
	for _, c := range []struct {
		b    branch
		want api.Shape
	}{
		{leaf("a"), api.Shape{Depth: 1, Nodes: 1, Keys: 1}},
		{leaf("a", "b", "c"), api.Shape{Depth: 1, Nodes: 1, Keys: 3}},
		{twoLeaves("a"), api.Shape{Depth: 2, Nodes: 3, Keys: 2}},
		{inner([]branch{leaf("a"), leaf("c", "d")}, "b"), api.Shape{Depth: 2, Nodes: 3, Keys: 3}},
		{inner([]branch{wide("a"), twoLeaves("b")}, "b"), api.Shape{Depth: 3, Nodes: 9, Keys: 6}},
	} {
		p, x := fresh(t, 120)
		setRoot(t, p, lay(t, p, c.b))
		wantOnly(t, p, c.b.keysBelow())
		wantShape(t, x, c.want.Depth, c.want.Nodes, 0, c.want.Keys)
	}
}

// Trees that are not as the words say.
func TestShapeOfWrongBranches(t *testing.T) {
	for name, b := range map[string]branch{
		"leaves of unlike depth":          inner([]branch{leaf("a"), twoLeaves("b")}, "b"),
		"leaves of unlike depth, behind":  inner([]branch{twoLeaves("a"), leaf("b")}, "b"),
		"an empty leaf":                   leaf(),
		"an empty leaf below":             inner([]branch{leaf("a"), leaf()}, "b"),
		"an empty leaf first":             inner([]branch{leaf(), leaf("b")}, "b"),
		"a key that is not below":         inner([]branch{leaf("a", "b"), leaf("b")}, "b"),
		"a key far above":                 inner([]branch{leaf("a", "c"), leaf("b")}, "b"),
		"a key that is below":             inner([]branch{leaf("a"), leaf("aa")}, "b"),
		"a key that is below, in between": inner([]branch{leaf("a"), leaf("aa"), leaf("c")}, "b", "c"),
		"a key above, in between":         inner([]branch{leaf("a"), leaf("bb", "c"), leaf("c")}, "b", "c"),
		"an upper bound, two above":       inner([]branch{inner([]branch{leaf("a"), leaf("b", "d")}, "b"), twoLeaves("c")}, "c"),
		"a lower bound, two above":        inner([]branch{twoLeaves("a"), inner([]branch{leaf("b"), leaf("d")}, "d")}, "c"),
		"a parting key above its bound":   inner([]branch{inner([]branch{leaf("a", "d"), leaf("e")}, "e"), twoLeaves("c")}, "c"),
		"a parting key below its bound":   inner([]branch{twoLeaves("a"), inner([]branch{leaf("c"), leaf("d")}, "b")}, "c"),
		"a parting key at its bound":      inner([]branch{twoLeaves("a"), inner([]branch{leaf("b"), leaf("d")}, "c")}, "c"),
	} {
		p, x := fresh(t, 120)
		setRoot(t, p, lay(t, p, b))
		t.Run(name, func(t *testing.T) { wantNoShape(t, x, api.ErrBytes) })
		callAll(t, p, x, "b")
	}
}

// Pages that say no node, that are not there, that are there twice, that lead round.
func TestShapeOfWrongPages(t *testing.T) {
	item := func(k string) api.Cell { return api.Cell{Key: k} }
	two := func(a, b int) api.Node { return api.Node{Items: []api.Cell{item("b")}, Kids: []int{a, b}} }
	chains := func(page, n int, more ...api.Cell) api.Node {
		return api.Node{Leaf: true, Items: append([]api.Cell{{Key: "a", Page: page, Len: n}}, more...)}
	}
	for name, do := range map[string]func(t *testing.T, p *pager.Pager){ // pages 1 to 5 are allotted; 1 is the root, 2 and 3 are leaves with a and b
		"noughts":              func(t *testing.T, p *pager.Pager) { wantErr(t, "Put", p.Put(1, make([]byte, api.PageSize)), api.OK) },
		"noughts below":        func(t *testing.T, p *pager.Pager) { layNode(t, p, 1, two(2, 4)) },
		"a root dropped":       func(t *testing.T, p *pager.Pager) { wantErr(t, "Drop", p.Drop(1), api.OK) },
		"a leaf dropped":       func(t *testing.T, p *pager.Pager) { wantErr(t, "Drop", p.Drop(3), api.OK) },
		"a kid not allotted":   func(t *testing.T, p *pager.Pager) { layNode(t, p, 1, two(2, 6)) },
		"a kid beyond all":     func(t *testing.T, p *pager.Pager) { layNode(t, p, 1, two(2, 65535)) },
		"a kid one beyond all": func(t *testing.T, p *pager.Pager) { layNode(t, p, 1, two(2, p.Size()+1)) },
		"a kid twice":          func(t *testing.T, p *pager.Pager) { layNode(t, p, 1, two(2, 2)) },
		"round":                func(t *testing.T, p *pager.Pager) { layNode(t, p, 1, two(1, 1)) },
		"round at the end":     func(t *testing.T, p *pager.Pager) { layNode(t, p, 1, two(2, 1)) },
		"round by two": func(t *testing.T, p *pager.Pager) {
			layNode(t, p, 1, two(2, 3))
			layNode(t, p, 2, two(1, 3))
		},
		"a chain at a node":      func(t *testing.T, p *pager.Pager) { layNode(t, p, 2, chains(3, 40)) },
		"a chain at itself":      func(t *testing.T, p *pager.Pager) { layNode(t, p, 2, chains(2, 300)) },
		"a chain not allotted":   func(t *testing.T, p *pager.Pager) { layNode(t, p, 2, chains(6, 40)) },
		"a chain beyond all":     func(t *testing.T, p *pager.Pager) { layNode(t, p, 2, chains(65535, 40)) },
		"a chain too short":      func(t *testing.T, p *pager.Pager) { layNode(t, p, 2, chains(4, api.MaxInline)) },
		"a chain that ends":      func(t *testing.T, p *pager.Pager) { layNode(t, p, 2, chains(4, 239)) },
		"a chain of one, longer": func(t *testing.T, p *pager.Pager) { layNode(t, p, 2, chains(4, api.MaxValue)) },
		"a chain for two": func(t *testing.T, p *pager.Pager) {
			layNode(t, p, 2, chains(4, 40, api.Cell{Key: "aa", Page: 4, Len: 40}))
		},
		"a chain that goes on": func(t *testing.T, p *pager.Pager) {
			b := make([]byte, api.PageSize)
			b[0] = 5
			wantErr(t, "Put", p.Put(4, b), api.OK)
			layNode(t, p, 2, chains(4, 238))
		},
		"a chain that goes round": func(t *testing.T, p *pager.Pager) {
			b := make([]byte, api.PageSize)
			b[0] = 4
			wantErr(t, "Put", p.Put(4, b), api.OK)
			layNode(t, p, 2, chains(4, api.MaxValue))
		},
	} {
		t.Run(name, func(t *testing.T) {
			p, x := fresh(t, 120)
			for range 5 {
				allot(t, p)
			}
			layNode(t, p, 1, two(2, 3))
			layNode(t, p, 2, api.Node{Leaf: true, Items: []api.Cell{item("a")}})
			layNode(t, p, 3, api.Node{Leaf: true, Items: []api.Cell{item("b")}})
			setRoot(t, p, 1)
			wantShape(t, x, 2, 3, 0, 2)
			layNode(t, p, 2, chains(4, 40))
			wantShape(t, x, 2, 3, 1, 2)
			do(t, p)
			wantNoShape(t, x, api.ErrBytes)
			for _, key := range []string{"a", "aa", "b", "c"} {
				callAll(t, p, x, key)
			}
		})
	}
}

// callAll makes each call, each of which has to end.
func callAll(t *testing.T, p *pager.Pager, x *btree.Tree, key string) {
	t.Helper()
	commit(t, p)
	keys := 0
	for range x.From(key) {
		keys++
	}
	if most := p.Size() * api.PageSize; keys > most {
		t.Errorf("%d keys", keys)
	}
	x.Get(key)
	x.Next(key)
	x.Shape()
	for _, call := range []func() api.Errno{
		func() api.Errno { return x.Put(key, "") },
		func() api.Errno { return x.Put(key, text(500)) },
		func() api.Errno { return x.Put(long(key), text(32)) },
		func() api.Errno { return x.Delete(key) },
	} {
		call()
		rollback(t, p)
	}
}

// R1: pages that hold nodes that nobody put into one tree, and bytes that are none.
func TestPagesOfAnyBytes(t *testing.T) {
	for seed := range int64(300) {
		r := rand.New(rand.NewSource(seed))
		p, x := fresh(t, 120)
		pages := 1 + r.Intn(40)
		for range pages {
			allot(t, p)
		}
		for page := range pages {
			b := make([]byte, api.PageSize)
			if r.Intn(8) > 0 {
				layNode(t, p, page+1, anyNode(r, pages))
				continue
			}
			for i := range b {
				b[i] = byte(r.Intn(256)) & byte(r.Intn(256))
			}
			b[0], b[1] = byte(r.Intn(pages+2)), 0
			wantErr(t, "Put", p.Put(page+1, b), api.OK)
		}
		setRoot(t, p, 1+r.Intn(pages))
		commit(t, p)
		for range 12 {
			callAll(t, p, x, anyKey(r))
			anyEdit(r, x) // what it leaves is gone on with
			if r.Intn(2) == 0 {
				commit(t, p)
			}
		}
	}
}

func anyKey(r *rand.Rand) string {
	return strings.Repeat(string(rune('a'+r.Intn(26))), 1+r.Intn(4))
}

func anyEdit(r *rand.Rand, x *btree.Tree) {
	switch r.Intn(3) {
	case 0:
		x.Delete(anyKey(r))
	case 1:
		x.Put(long(anyKey(r)), text(32))
	default:
		x.Put(anyKey(r), text(r.Intn(1000)))
	}
}

// anyNode is a well-formed one with kids and chains at any of the pages.
func anyNode(r *rand.Rand, pages int) api.Node {
	keys := map[string]bool{}
	for range 1 + r.Intn(12) {
		keys[anyKey(r)] = true
	}
	n := api.Node{Leaf: r.Intn(2) == 0}
	if !n.Leaf {
		n.Kids = append(n.Kids, 1+r.Intn(pages))
	}
	for c := 'a'; c <= 'z'; c++ {
		for l := 1; l <= 4; l++ {
			k := strings.Repeat(string(c), l)
			if !keys[k] {
				continue
			}
			x := api.Cell{Key: k}
			switch {
			case !n.Leaf:
				n.Kids = append(n.Kids, 1+r.Intn(pages))
			case r.Intn(6) == 0:
				x.Page, x.Len = 1+r.Intn(pages), 1+r.Intn(api.MaxValue)
			default:
				x.Value = text(r.Intn(8))
			}
			n.Items = append(n.Items, x)
		}
	}
	return n
}
