package btree

import (
	"brickyard/api"
)

// Shape answers how deep the tree is, how many nodes, pages of chains and keys it has.
func (t *Tree) Shape() (s api.Shape, e api.Errno) {
	if t == nil {
		return s, api.ErrNil
	}
	top, e := t.p.Root(t.root)
	if e != api.OK || top == 0 {
		return s, e
	}
	v := survey{tree: t, seen: make([]bool, t.p.Size()+1)}
	if e = v.node(top, 1, "", ""); e != api.OK {
		return s, e
	}
	return v.shape, api.OK
}

// survey is a way through all nodes and chains.
type survey struct {
	tree  *Tree
	seen  []bool // by page: a page is in one place of a tree alone
	shape api.Shape
}

// node goes through what lies below the page, of which no key may be below low, and none may not be below high, if there
// is a high one.
func (v *survey) node(page, depth int, low, high string) (e api.Errno) {
	n, e := v.tree.node(page)
	if e != api.OK {
		return e
	}
	if e = v.see(page); e != api.OK {
		return e
	}
	v.shape.Nodes++
	if !within(n.Items, low, high) {
		return api.ErrBytes
	}
	if n.Leaf {
		return v.leaf(n, depth)
	}
	for i, kid := range n.Kids {
		from, to := low, high
		if i > 0 {
			from = n.Items[i-1].Key
		}
		if i < len(n.Items) {
			to = n.Items[i].Key
		}
		if e = v.node(kid, depth+1, from, to); e != api.OK {
			return e
		}
	}
	return api.OK
}

// see marks a page that is there.
func (v *survey) see(page int) api.Errno {
	if v.seen[page] {
		return api.ErrBytes
	}
	v.seen[page] = true
	return api.OK
}

// within tells of rising items, one at least, whether they keep to the bounds.
func within(items []api.Cell, low, high string) bool {
	last := len(items) - 1
	return last >= 0 && items[0].Key >= low && (high == "" || items[last].Key < high)
}

// leaf counts the leaf's keys and chains. The first leaf tells how deep all of them lie.
func (v *survey) leaf(n api.Node, depth int) (e api.Errno) {
	if v.shape.Depth == 0 {
		v.shape.Depth = depth
	}
	if v.shape.Depth != depth {
		return api.ErrBytes
	}
	v.shape.Keys += len(n.Items)
	for _, c := range n.Items {
		if c.Page != 0 && c.Len <= api.MaxInline {
			return api.ErrBytes
		}
		if e = v.tree.walk(c, v.link); e != api.OK {
			return e
		}
	}
	return api.OK
}

// link counts a chain's page.
func (v *survey) link(page int, _ []byte) api.Errno {
	v.shape.Chains++
	return v.see(page)
}
