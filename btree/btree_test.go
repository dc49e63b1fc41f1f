package btree_test

import (
	"fmt"
	"maps"
	"math"
	"slices"
	"strings"
	"testing"

	"brickyard/api"
	"brickyard/btree"
	"brickyard/cell"
	"brickyard/disk"
	"brickyard/pager"
)

// perPage is how many bytes of a value a chain's page has.
const perPage = 238

func open(t *testing.T, d *disk.Disk) *pager.Pager {
	t.Helper()
	p, e := pager.Open(d)
	if p == nil || e != api.OK {
		t.Fatalf("Open: %v, %d", p, e)
	}
	return p
}

func freshPager(t *testing.T, blocks int) (*disk.Disk, *pager.Pager) {
	t.Helper()
	d, e := disk.New(blocks)
	if e != api.OK {
		t.Fatalf("New(%d): %d", blocks, e)
	}
	if e := pager.Format(d); e != api.OK {
		t.Fatalf("Format: %d", e)
	}
	return d, open(t, d)
}

func treeOf(t *testing.T, p *pager.Pager, root int) *btree.Tree {
	t.Helper()
	x, e := btree.New(p, root)
	if x == nil || e != api.OK {
		t.Fatalf("New(%d): %v, %d", root, x, e)
	}
	return x
}

func fresh(t *testing.T, blocks int) (*pager.Pager, *btree.Tree) {
	t.Helper()
	_, p := freshPager(t, blocks)
	return p, treeOf(t, p, 0)
}

func commit(t *testing.T, p *pager.Pager) {
	t.Helper()
	if e := p.Commit(); e != api.OK {
		t.Fatalf("Commit: %d", e)
	}
}

func rollback(t *testing.T, p *pager.Pager) {
	t.Helper()
	if e := p.Rollback(); e != api.OK {
		t.Fatalf("Rollback: %d", e)
	}
}

func put(t *testing.T, x *btree.Tree, key, value string) {
	t.Helper()
	if e := x.Put(key, value); e != api.OK {
		t.Fatalf("Put(%.80q, %d bytes): %d", key, len(value), e)
	}
}

func remove(t *testing.T, x *btree.Tree, keys ...string) {
	t.Helper()
	for _, k := range keys {
		if e := x.Delete(k); e != api.OK {
			t.Fatalf("Delete(%.80q): %d", k, e)
		}
	}
}

// text is n bytes, which tell where in it they stand.
func text(n int) string {
	b := make([]byte, n)
	for i := range b {
		b[i] = byte(i*7 + i/251 + n)
	}
	return string(b)
}

// long is a key of MaxKey bytes that begins with s.
func long(s string) string { return s + strings.Repeat("~", api.MaxKey-len(s)) }

func wantErr(t *testing.T, call string, got, want api.Errno) {
	t.Helper()
	if got != want {
		t.Errorf("%s: %d, want %d", call, got, want)
	}
}

func wantGet(t *testing.T, x *btree.Tree, key, want string) {
	t.Helper()
	if v, e := x.Get(key); v != want || e != api.OK {
		t.Errorf("Get(%.80q): %d bytes, %d, want %d bytes", key, len(v), e, len(want))
	}
}

func wantNoGet(t *testing.T, x *btree.Tree, key string, want api.Errno) {
	t.Helper()
	if v, e := x.Get(key); v != "" || e != want {
		t.Errorf("Get(%.80q): %q, %d, want the error %d", key, v, e, want)
	}
}

func wantNext(t *testing.T, x *btree.Tree, from, key, value string) {
	t.Helper()
	if k, v, e := x.Next(from); k != key || v != value || e != api.OK {
		t.Errorf("Next(%.80q): %.80q, %d bytes, %d, want %.80q", from, k, len(v), e, key)
	}
}

func wantNoNext(t *testing.T, x *btree.Tree, from string, want api.Errno) {
	t.Helper()
	if k, v, e := x.Next(from); k != "" || v != "" || e != want {
		t.Errorf("Next(%.80q): %q, %q, %d, want the error %d", from, k, v, e, want)
	}
}

func wantShape(t *testing.T, x *btree.Tree, depth, nodes, chains, keys int) {
	t.Helper()
	want := api.Shape{Depth: depth, Nodes: nodes, Chains: chains, Keys: keys}
	if s, e := x.Shape(); s != want || e != api.OK {
		t.Errorf("Shape: %v, %d, want %v", s, e, want)
	}
}

func wantNoShape(t *testing.T, x *btree.Tree, want api.Errno) {
	t.Helper()
	if s, e := x.Shape(); s != (api.Shape{}) || e != want {
		t.Errorf("Shape: %v, %d, want the error %d", s, e, want)
	}
}

// looker goes through the pages of a tree by itself, and has nothing from package btree.
type looker struct {
	t     *testing.T
	p     *pager.Pager
	shape api.Shape
	keys  []string
}

// look fails unless the page's node, and what lies below it, is as chapter 7 wants it.
func (l *looker) look(page, depth int, low, high string) {
	l.t.Helper()
	b, e := l.p.Get(page)
	if e != api.OK {
		l.t.Fatalf("page %d: %d", page, e)
	}
	n, e := cell.Get(b)
	if e != api.OK {
		l.t.Fatalf("page %d: %x is no node", page, b)
	}
	l.shape.Nodes++
	if len(n.Items) == 0 {
		l.t.Fatalf("page %d: an empty node", page)
	}
	if n.Items[0].Key < low || high != "" && n.Items[len(n.Items)-1].Key >= high {
		l.t.Fatalf("page %d: %v is not from %q to %q", page, n, low, high)
	}
	for i, kid := range n.Kids {
		bounds := append(append([]string{low}, keysOf(n.Items)...), high)
		l.look(kid, depth+1, bounds[i], bounds[i+1])
	}
	if n.Leaf {
		l.leaf(n, depth)
	}
}

func (l *looker) leaf(n api.Node, depth int) {
	l.t.Helper()
	if l.shape.Depth != 0 && l.shape.Depth != depth {
		l.t.Fatalf("leaves lie %d and %d deep", l.shape.Depth, depth)
	}
	l.shape.Depth = depth
	l.shape.Keys += len(n.Items)
	l.keys = append(l.keys, keysOf(n.Items)...)
	for _, c := range n.Items {
		if c.Len > 0 && c.Len <= api.MaxInline {
			l.t.Fatalf("a chain of %d bytes", c.Len)
		}
		l.shape.Chains += (c.Len + perPage - 1) / perPage
	}
}

func keysOf(items []api.Cell) (l []string) {
	for _, c := range items {
		l = append(l, c.Key)
	}
	return l
}

// wantTree fails unless the tree at the root has just these keys and values, in a right form, and answers how many
// pages it has.
func wantTree(t *testing.T, p *pager.Pager, root int, want map[string]string) api.Shape {
	t.Helper()
	x := treeOf(t, p, root)
	keys := slices.Sorted(maps.Keys(want))
	l := looker{t: t, p: p}
	top, e := p.Root(root)
	wantErr(t, "Root", e, api.OK)
	if top != 0 {
		l.look(top, 1, "", "")
	}
	if !slices.Equal(l.keys, keys) {
		t.Fatalf("%d keys, want %d: %.300q, %.300q", len(l.keys), len(keys), l.keys, keys)
	}
	s, e := x.Shape()
	if s != l.shape || e != api.OK {
		t.Fatalf("Shape: %v, %d, want %v", s, e, l.shape)
	}
	if len(keys) > 0 && (s.Nodes >= 2*s.Keys+1 || 1<<(s.Depth-1) > s.Keys) {
		t.Fatalf("Shape: %v", s)
	}
	if len(keys) == 0 && (top != 0 || s != api.Shape{}) {
		t.Fatalf("without keys: root %d, %v", top, s)
	}
	n := 0
	for k, v := range x.From("") {
		if n >= len(keys) || k != keys[n] || v != want[k] {
			t.Fatalf("From: %d: %.80q, %d bytes", n, k, len(v))
		}
		n++
	}
	if n != len(keys) {
		t.Fatalf("From: %d keys, want %d", n, len(keys))
	}
	return s
}

// wantOnly fails unless the tree at root 0 has just these keys, and the pager has its pages alone.
func wantOnly(t *testing.T, p *pager.Pager, want map[string]string) api.Shape {
	t.Helper()
	s := wantTree(t, p, 0, want)
	if got := p.Size() - p.Free(); got != s.Nodes+s.Chains {
		t.Fatalf("%d pages are allotted, %v", got, s)
	}
	return s
}

// P7.1

func TestNew(t *testing.T) {
	_, p := freshPager(t, 80)
	for _, root := range []int{0, 1, api.MaxRoots - 1} {
		wantShape(t, treeOf(t, p, root), 0, 0, 0, 0)
	}
	for _, root := range []int{-1, api.MaxRoots, math.MinInt, math.MaxInt} {
		if x, e := btree.New(p, root); x != nil || e != api.ErrRange {
			t.Errorf("New(%d): %v, %d", root, x, e)
		}
		if x, e := btree.New(nil, root); x != nil || e != api.ErrNil {
			t.Errorf("New(nil, %d): %v, %d", root, x, e)
		}
	}
	if x, e := btree.New(nil, 0); x != nil || e != api.ErrNil {
		t.Errorf("New(nil, 0): %v, %d", x, e)
	}
	if p.Free() != 13 || p.Touched() != 0 {
		t.Errorf("%d free, %d touched", p.Free(), p.Touched())
	}
}

func TestNilTree(t *testing.T) {
	var x *btree.Tree
	for _, key := range []string{"", "a", text(api.MaxKey + 1)} {
		wantNoGet(t, x, key, api.ErrNil)
		wantNoNext(t, x, key, api.ErrNil)
		wantErr(t, "Put", x.Put(key, text(api.MaxValue+1)), api.ErrNil)
		wantErr(t, "Delete", x.Delete(key), api.ErrNil)
		for k := range x.From(key) {
			t.Errorf("From: %q", k)
		}
	}
	wantNoShape(t, x, api.ErrNil)
}

// The document's examples.

func TestExamples(t *testing.T) {
	p, x := fresh(t, 80)
	wantNoGet(t, x, "a", api.ErrNone)
	put(t, x, "a", "x")
	wantGet(t, x, "a", "x")
	wantNext(t, x, "", "a", "x")
	wantNoNext(t, x, "b", api.ErrNone)
	wantShape(t, x, 1, 1, 0, 1)
	put(t, x, "b", text(500))
	wantShape(t, x, 1, 1, 3, 2)
	wantErr(t, "Put", x.Put("", "x"), api.ErrArg)
	wantErr(t, "Put", x.Put("a", text(4609)), api.ErrLong)
	wantErr(t, "Delete", x.Delete("c"), api.ErrNone)
	wantOnly(t, p, map[string]string{"a": "x", "b": text(500)})
	remove(t, x, "a", "b")
	wantShape(t, x, 0, 0, 0, 0)
	if p.Free() != 13 {
		t.Errorf("%d free", p.Free())
	}
}

// P7.2, P7.3

func TestKeysOfAllLengths(t *testing.T) {
	p, x := fresh(t, 200)
	want := map[string]string{}
	for n := 1; n <= api.MaxKey; n++ {
		put(t, x, text(n), text(n%33))
		want[text(n)] = text(n % 33)
	}
	commit(t, p)
	for _, key := range []string{"", text(api.MaxKey + 1), text(1000)} {
		wantErr(t, "Put", x.Put(key, "x"), api.ErrArg)
		wantErr(t, "Delete", x.Delete(key), api.ErrArg)
		wantNoGet(t, x, key, api.ErrArg)
	}
	if p.Touched() != 0 {
		t.Errorf("%d pages are touched", p.Touched())
	}
	for k, v := range want {
		wantGet(t, x, k, v)
	}
	wantOnly(t, p, want)
}

func TestKeysOfAnyBytes(t *testing.T) {
	p, x := fresh(t, 120)
	want := map[string]string{}
	for _, k := range []string{"\x00", "\x00\x00", "\xff", "\xff\xff", "\x7f", "\x80", "a\x00", "a", "a\xff", "é", "\n", strings.Repeat("\xff", api.MaxKey), strings.Repeat("\x00", api.MaxKey)} {
		put(t, x, k, k[:1])
		want[k] = k[:1]
	}
	wantOnly(t, p, want)
	wantNoGet(t, x, "\x00\x00\x00", api.ErrNone)
	wantNext(t, x, "\x00\x00\x00", strings.Repeat("\x00", api.MaxKey), "\x00")
	wantNext(t, x, "\xff\xff\x00", strings.Repeat("\xff", api.MaxKey), "\xff")
}

var lengths = []int{0, 1, 31, api.MaxInline, api.MaxInline + 1, 237, 238, 239, 240, 241, 475, 476, 477, 2400, 4522, 4523, api.MaxValue - 1, api.MaxValue}

func chainPages(n int) int {
	if n <= api.MaxInline {
		return 0
	}
	return (n + perPage - 1) / perPage
}

// Each length behind each: the value is the last one, and the pages of the one ahead are free again.
func TestValuesOfAllLengths(t *testing.T) {
	for _, from := range lengths {
		for _, to := range lengths {
			p, x := fresh(t, 120)
			put(t, x, "k", "beside")
			put(t, x, "j", text(from))
			wantGet(t, x, "j", text(from))
			wantShape(t, x, 1, 1, chainPages(from), 2)
			commit(t, p)
			put(t, x, "j", text(to))
			wantGet(t, x, "j", text(to))
			wantNext(t, x, "", "j", text(to))
			wantOnly(t, p, map[string]string{"j": text(to), "k": "beside"})
			wantShape(t, x, 1, 1, chainPages(to), 2)
			commit(t, p)
			remove(t, x, "j")
			wantNoGet(t, x, "j", api.ErrNone)
			wantOnly(t, p, map[string]string{"k": "beside"})
		}
	}
	p, x := fresh(t, 120)
	put(t, x, "j", text(300))
	commit(t, p)
	for _, n := range []int{api.MaxValue + 1, 1 << 16} {
		wantErr(t, "Put", x.Put("j", text(n)), api.ErrLong)
		wantErr(t, "Put", x.Put("i", text(n)), api.ErrLong)
		wantErr(t, "Put", x.Put("", text(n)), api.ErrArg)
	}
	if p.Touched() != 0 {
		t.Errorf("%d pages are touched", p.Touched())
	}
	wantOnly(t, p, map[string]string{"j": text(300)})
}

// A value that is noughts, or looks like a chain's page or a node's.
func TestValuesOfAnyBytes(t *testing.T) {
	p, x := fresh(t, 200)
	node, _ := cell.Put(api.Node{Kids: []int{1, 1}, Items: []api.Cell{{Key: "a"}}})
	want := map[string]string{
		"a": strings.Repeat("\x00", 1000),
		"b": strings.Repeat("\xff", 1000),
		"c": strings.Repeat(string(node), 4),
		"d": strings.Repeat("\x01\x00", 119),
	}
	for k, v := range want {
		put(t, x, k, v)
	}
	commit(t, p)
	wantOnly(t, p, want)
}

func TestDeleteOfNone(t *testing.T) {
	p, x := fresh(t, 200)
	wantErr(t, "Delete", x.Delete("a"), api.ErrNone)
	want := map[string]string{}
	for i := range 60 {
		k := fmt.Sprintf("%02d", i*2%99)
		put(t, x, k, text(i))
		want[k] = text(i)
		commit(t, p)
	}
	for i := range 60 {
		wantErr(t, "Delete", x.Delete(fmt.Sprintf("%02dx", i*2%99)), api.ErrNone)
	}
	if p.Touched() != 0 {
		t.Errorf("%d pages are touched", p.Touched())
	}
	remove(t, x, "08")
	wantErr(t, "Delete", x.Delete("08"), api.ErrNone)
	delete(want, "08")
	wantOnly(t, p, want)
}

// P7.4

func TestNext(t *testing.T) {
	for _, many := range []int{0, 1, 2, 40, 300} {
		p, x := fresh(t, 600)
		want := map[string]string{}
		for i := range many {
			k := fmt.Sprintf("k%04d", 2*i*77%(2*many))
			put(t, x, k, text(i%40))
			want[k] = text(i % 40)
			commit(t, p)
		}
		keys := slices.Sorted(maps.Keys(want))
		froms := []string{"", "\x00", "j", "k", "k9", "l", "\xff", text(200), "k" + text(200)}
		for _, k := range keys {
			froms = append(froms, k, k+"\x00", k+"x", k[:4], k[:4]+string(k[4]+1), k+text(100))
		}
		for _, from := range froms {
			i, _ := slices.BinarySearch(keys, from)
			if i == len(keys) {
				wantNoNext(t, x, from, api.ErrNone)
			} else {
				wantNext(t, x, from, keys[i], want[keys[i]])
			}
			wantFrom(t, x, from, keys[i:])
		}
	}
}

// wantFrom fails unless From tells the keys, all of them and when it is left early, and twice.
func wantFrom(t *testing.T, x *btree.Tree, from string, want []string) {
	t.Helper()
	told := x.From(from)
	for _, most := range []int{0, 1, 3, 3, 7} {
		var got []string
		for k := range told {
			got = append(got, k)
			if len(got) > most {
				break
			}
		}
		if !slices.Equal(got, want[:min(len(want), most+1)]) {
			t.Fatalf("From(%.80q): %q, want %q", from, got, want)
		}
	}
}

// What goes through the keys begins anew each time, at what there is then.
func TestFromAgain(t *testing.T) {
	_, x := fresh(t, 80)
	told := x.From("b")
	tell := func() (s string) {
		for k, v := range told {
			s += k + v + " "
		}
		return s
	}
	want := func(w string) {
		t.Helper()
		if got := tell(); got != w {
			t.Errorf("From: %q, want %q", got, w)
		}
	}
	want("")
	put(t, x, "c", "1")
	put(t, x, "a", "2")
	want("c1 ")
	put(t, x, "b", "3")
	want("b3 c1 ")
	want("b3 c1 ")
	remove(t, x, "c")
	put(t, x, "b", "4")
	want("b4 ")
}

func TestFromWithChangesMeanwhile(t *testing.T) {
	p, x := fresh(t, 600)
	want := map[string]string{}
	for i := range 100 {
		k := fmt.Sprintf("%03d", i*2)
		put(t, x, k, k)
		want[k] = k
		commit(t, p)
	}
	var got []string
	for k, v := range x.From("") {
		got = append(got, k+v)
		var i int
		fmt.Sscanf(k, "%d", &i)
		switch {
		case i%2 == 1:
		case i%12 == 0: // one more behind it, another value of the next one; one more ahead, which is not seen
			put(t, x, fmt.Sprintf("%03d", i+1), "new")
			put(t, x, fmt.Sprintf("%03d", i+2), "other")
			put(t, x, fmt.Sprintf("%03dx", i-1), "unseen")
			want[fmt.Sprintf("%03d", i+1)], want[fmt.Sprintf("%03d", i+2)], want[fmt.Sprintf("%03dx", i-1)] = "new", "other", "unseen"
		case i%12 == 4: // the next one, and itself, are gone
			remove(t, x, fmt.Sprintf("%03d", i+2), k)
			delete(want, fmt.Sprintf("%03d", i+2))
			delete(want, k)
		}
		commit(t, p)
	}
	var told []string
	for i := 0; i < 200; i += 2 {
		s := fmt.Sprintf("%03d", i)
		switch i % 12 {
		case 0:
			told = append(told, s+s, fmt.Sprintf("%03dnew", i+1))
		case 2:
			told = append(told, s+"other")
		case 6:
		default:
			told = append(told, s+s)
		}
	}
	if !slices.Equal(got, told) {
		t.Errorf("From: %q, want %q", got, told)
	}
	wantOnly(t, p, want)
	for k := range x.From("") { // each key deleted as it is told
		remove(t, x, k)
		commit(t, p)
	}
	wantOnly(t, p, nil)
}

// Several trees of one root are one tree; trees of several roots have nothing to do with each other.

func TestTreesOfOneRoot(t *testing.T) {
	p, x := fresh(t, 200)
	y := treeOf(t, p, 0)
	want := map[string]string{}
	for i := range 80 {
		k, v := fmt.Sprint(i*7%80), text(i)
		put(t, []*btree.Tree{x, y}[i%2], k, v)
		want[k] = v
		wantGet(t, x, k, v)
		wantGet(t, y, k, v)
		wantGet(t, treeOf(t, p, 0), k, v)
		commit(t, p)
	}
	wantOnly(t, p, want)
	for i := range 80 {
		remove(t, []*btree.Tree{x, y}[i/2%2], fmt.Sprint(i))
		wantNoGet(t, x, fmt.Sprint(i), api.ErrNone)
		wantNoGet(t, y, fmt.Sprint(i), api.ErrNone)
		commit(t, p)
	}
	wantShape(t, x, 0, 0, 0, 0)
	wantShape(t, y, 0, 0, 0, 0)
	wantOnly(t, p, nil)
}

func TestTreesOfSeveralRoots(t *testing.T) {
	_, p := freshPager(t, 800)
	var trees [api.MaxRoots]*btree.Tree
	var want [api.MaxRoots]map[string]string
	for r := range trees {
		trees[r], want[r] = treeOf(t, p, r), map[string]string{}
	}
	for i := range 400 {
		r := i * 5 % 7 % api.MaxRoots // the last one stays empty
		k, v := fmt.Sprint(i%50), text(i%100)
		if i%9 == 8 {
			e := trees[r].Delete(k)
			if _, is := want[r][k]; is != (e == api.OK) {
				t.Fatalf("Delete: %d", e)
			}
			delete(want[r], k)
		} else {
			put(t, trees[r], k, v)
			want[r][k] = v
		}
		commit(t, p)
	}
	look := func() {
		t.Helper()
		pages := 0
		for r := range trees {
			s := wantTree(t, p, r, want[r])
			pages += s.Nodes + s.Chains
		}
		if pages != p.Size()-p.Free() {
			t.Errorf("%d pages are allotted, the trees have %d", p.Size()-p.Free(), pages)
		}
	}
	look()
	for r := range trees {
		for k := range trees[r].From("") {
			remove(t, trees[r], k)
			commit(t, p)
		}
		want[r] = nil
		look()
	}
}

// A tree is seen as it is in the transaction; it is what was committed behind a rollback, and behind an opening.
func TestTransaction(t *testing.T) {
	d, p := freshPager(t, 200)
	x := treeOf(t, p, 3)
	want := map[string]string{}
	for i := range 50 {
		put(t, x, fmt.Sprint(i), text(i))
		want[fmt.Sprint(i)] = text(i)
	}
	commit(t, p)
	put(t, x, "z", text(400))
	remove(t, x, "1", "20", "21", "22", "23")
	put(t, x, "7", "other")
	wantGet(t, x, "7", "other")
	wantNoGet(t, x, "1", api.ErrNone)
	rollback(t, p)
	wantTree(t, p, 3, want)
	put(t, x, "z", text(400))
	remove(t, x, "1")
	if e := d.Crash(nil, 0); e != api.OK {
		t.Fatalf("Crash: %d", e)
	}
	p = open(t, d)
	wantTree(t, p, 3, want)
	wantTree(t, p, 0, nil)
	x = treeOf(t, p, 3)
	remove(t, x, slices.Collect(maps.Keys(want))...)
	wantTree(t, p, 3, nil)
	rollback(t, p)
	wantTree(t, p, 3, want)
	remove(t, x, slices.Collect(maps.Keys(want))...)
	commit(t, p)
	p = open(t, d)
	wantTree(t, p, 3, nil)
	if p.Free() != p.Size() {
		t.Errorf("%d of %d pages are free", p.Free(), p.Size())
	}
}
