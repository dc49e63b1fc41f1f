package cell_test

import (
	"bytes"
	"slices"
	"testing"

	"brickyard/api"
	"brickyard/cell"
)

// roomy is the node in lists that have room behind their ends, in which marks stand.
func roomy(n api.Node) api.Node {
	items := append(slices.Clone(n.Items), api.Cell{Key: "mark"}, api.Cell{Key: "mark"})
	kids := append(slices.Clone(n.Kids), -7, -7)
	return api.Node{Leaf: n.Leaf, Items: items[:len(n.Items)], Kids: kids[:len(n.Kids)]}
}

// wantLeft: the node, and the marks behind its lists, are as roomy made them.
func wantLeft(t *testing.T, what string, n, was api.Node) {
	t.Helper()
	if !same(n, was) {
		t.Errorf("%s: what was handed in is %v, was %v", what, n, was)
	}
	for _, c := range n.Items[len(n.Items) : len(n.Items)+2] {
		if c.Key != "mark" {
			t.Errorf("%s: the room behind the items has %v", what, c)
		}
	}
	for _, k := range n.Kids[len(n.Kids) : len(n.Kids)+2] {
		if k != -7 {
			t.Errorf("%s: the room behind the kids has %d", what, k)
		}
	}
}

// spoil writes over the node's lists, and the room behind their ends.
func spoil(nodes ...api.Node) {
	for _, n := range nodes {
		items, kids := n.Items[:cap(n.Items)], n.Kids[:cap(n.Kids)]
		for i := range items {
			items[i] = api.Cell{Key: "spoilt", Page: -1}
		}
		for i := range kids {
			kids[i] = -1
		}
	}
}

func bothKinds() []api.Node {
	return []api.Node{leaf("a", "b", "c", "d", "e"), inner(1, "a", "b", "c", "d", "e")}
}

// R3

func TestWhatIsHandedInIsLeft(t *testing.T) {
	for _, was := range bothKinds() {
		n := roomy(was)
		cell.Check(n)
		cell.Size(n)
		cell.Find(n, "c")
		wantLeft(t, "Check, Size, Find", n, was)
		cell.Put(n)
		wantLeft(t, "Put", n, was)
		cell.Half(n)
		wantLeft(t, "Half", n, was)

		x, key, y := partAt(was, 2)
		a, b := roomy(x), roomy(y)
		cell.Join(a, key, b)
		wantLeft(t, "Join", a, x)
		wantLeft(t, "Join", b, y)
		// with an empty one it would be easy to answer the other one itself
		cell.Join(roomy(leaf()), "", roomy(leaf("a")))
	}
}

func TestGetLeavesAndDoesNotKeepTheBytes(t *testing.T) {
	for _, n := range bothKinds() {
		b := append(page(t, n), 9, 9)
		was := slices.Clone(b)
		m, e := cell.Get(b[:api.PageSize])
		if e != api.OK || !bytes.Equal(b, was) {
			t.Errorf("Get: %d, % x", e, b)
		}
		clear(b)
		if !same(m, n) {
			t.Errorf("Get keeps the bytes: %v", m)
		}
		again, _ := cell.Get(was[:api.PageSize])
		spoil(m)
		if !same(again, n) {
			t.Errorf("two answers share a list: %v", again)
		}
	}
}

func TestPutAnswersNewBytes(t *testing.T) {
	n := leaf("a")
	x, y := page(t, n), page(t, n)
	for i := range x[:cap(x)] {
		x[:cap(x)][i] = 1
	}
	if !bytes.Equal(y, padded(handForm(n)...)) {
		t.Errorf("two answers share bytes: % x", y)
	}
}

func TestHalfAnswersNewLists(t *testing.T) {
	for _, was := range bothKinds() {
		n := roomy(was)
		a, key, b, _ := cell.Half(n)
		x, y := roomy(a), roomy(b)
		spoil(n)
		if !same(a, x) || !same(b, y) || key != x.Items[len(x.Items)-1].Key && key != "c" {
			t.Errorf("Half keeps what was handed in: %v, %v", a, b)
		}
		spoil(a)
		if !same(b, y) {
			t.Errorf("the halves share a list: %v", b)
		}
		n = roomy(was)
		a, _, b, _ = cell.Half(n)
		spoil(a, b)
		wantLeft(t, "Half's answers written over", n, was)
	}
}

func TestJoinAnswersNewLists(t *testing.T) {
	for _, was := range append(bothKinds(), leaf("a"), leaf()) {
		for i := range was.Items {
			if !was.Leaf && (i < 1 || i > len(was.Items)-2) {
				continue
			}
			x, key, y := partAt(was, i)
			a, b := roomy(x), roomy(y)
			n, e := cell.Join(a, key, b)
			if e != api.OK || !same(n, was) {
				t.Fatalf("Join: %v, %d", n, e)
			}
			spoil(n)
			wantLeft(t, "Join's answer written over", a, x)
			wantLeft(t, "Join's answer written over", b, y)
			n, _ = cell.Join(a, key, b)
			spoil(a, b)
			if !same(n, was) {
				t.Errorf("Join keeps what was handed in: %v", n)
			}
		}
		if !was.Leaf {
			continue
		}
		for _, pair := range [][2]api.Node{{roomy(was), leaf()}, {leaf(), roomy(was)}} {
			key := ""
			if len(pair[0].Items) > 0 {
				key = "z"
			}
			n, e := cell.Join(pair[0], key, pair[1])
			if e != api.OK || !same(n, was) {
				t.Fatalf("Join with an empty leaf: %v, %d", n, e)
			}
			spoil(pair[0], pair[1])
			if !same(n, was) {
				t.Errorf("Join with an empty leaf answers what was handed in: %v", n)
			}
		}
	}
}
