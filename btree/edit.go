package btree

import (
	"slices"

	"brickyard/api"
	"brickyard/cell"
)

// A change answers what a leaf's items come to; the key belongs at the place i, and is there or is not.
type change func(items []api.Cell, i int, is bool) ([]api.Cell, api.Errno)

// An outcome is what became of a node.
type outcome int

const (
	same  outcome = iota // its page has it
	less                 // it has an item less
	other                // it is another one, and may be too long for a page
)

// edit changes the leaf in which the key belongs, and what hangs on that.
func (t *Tree) edit(key string, to change) (e api.Errno) {
	top, e := t.p.Root(t.root)
	if e != api.OK {
		return e
	}
	n, how, e := t.edited(top, key, to, deepest)
	if e != api.OK || how == same {
		return e
	}
	return t.plant(top, n)
}

// edited changes what lies below the page, and answers what its node comes to: whoever stands above it writes it, parts
// it or joins it.
func (t *Tree) edited(page int, key string, to change, left int) (n api.Node, how outcome, e api.Errno) {
	if left == 0 {
		return n, same, api.ErrBytes
	}
	if n, e = t.node(page); e != api.OK {
		return n, same, e
	}
	i, is := cell.Find(n, key)
	if n.Leaf {
		how, e = rewrite(&n, i, is, to)
		return n, how, e
	}
	kid, how, e := t.edited(n.Kids[i], key, to, left-1)
	if e != api.OK || how == same {
		return n, same, e
	}
	how, e = t.settle(&n, i, kid, how)
	return n, how, e
}

// rewrite changes the leaf's items.
func rewrite(n *api.Node, i int, is bool, to change) (how outcome, e api.Errno) {
	before := len(n.Items)
	if n.Items, e = to(n.Items, i, is); e != api.OK {
		return same, e
	}
	if len(n.Items) < before {
		return less, api.OK
	}
	return other, api.OK
}

// settle lets kid be what the kid i of n is, and tells what becomes of n thereby.
func (t *Tree) settle(n *api.Node, i int, kid api.Node, how outcome) (of outcome, e api.Errno) {
	size := cell.Size(kid)
	switch {
	case how == less && size <= api.PageSize/2:
		return t.join(n, i, kid)
	case size > api.PageSize:
		return other, t.part(n, i, kid)
	}
	return same, t.write(n.Kids[i], kid)
}

// part makes two kids of the kid i of n. What is too long has but one item more than a node that fits, of which both
// halves fit.
func (t *Tree) part(n *api.Node, i int, kid api.Node) (e api.Errno) {
	right, e := t.p.Allot()
	if e != api.OK {
		return e
	}
	n.Items = slices.Insert(n.Items, i, api.Cell{})
	n.Kids = slices.Insert(n.Kids, i+1, right)
	return t.share(n, i, kid)
}

// share lets the kids i and i+1 of n have one half each of whole.
func (t *Tree) share(n *api.Node, i int, whole api.Node) (e api.Errno) {
	a, key, b, e := cell.Half(whole)
	if e != api.OK {
		return api.ErrBytes
	}
	n.Items[i].Key = key
	if e = t.write(n.Kids[i], a); e != api.OK {
		return e
	}
	return t.write(n.Kids[i+1], b)
}

// join makes one of the kid i of n, which is small, and the one ahead of it or behind it, where both fit into a page. If
// they don't it stays alone; but an inner node whose last key is gone takes kids from the other one.
func (t *Tree) join(n *api.Node, i int, kid api.Node) (of outcome, e api.Errno) {
	var whole api.Node
	first, last := max(i-1, 0), min(i, len(n.Items)-1)
	for k := first; k <= last; k++ {
		if whole, e = t.pair(n, k, i, kid); e != api.OK {
			return same, e
		}
		if cell.Size(whole) <= api.PageSize {
			return less, t.merge(n, k, whole)
		}
	}
	if len(kid.Items) > 0 {
		return same, t.write(n.Kids[i], kid)
	}
	return other, t.share(n, last, whole)
}

// pair answers what the kids k and k+1 of n have, as one node, be it ever so long. One of them is the kid i, which is kid.
func (t *Tree) pair(n *api.Node, k, i int, kid api.Node) (whole api.Node, e api.Errno) {
	a, b := kid, kid
	if k < i {
		a, e = t.node(n.Kids[k])
	} else {
		b, e = t.node(n.Kids[k+1])
	}
	if e != api.OK {
		return whole, e
	}
	return together(a, n.Items[k].Key, b), api.OK
}

// together answers what both nodes have, and of inner nodes the key between them. cell.Join does not, if one of them has
// no key any more, or if it is too long.
func together(a api.Node, key string, b api.Node) api.Node {
	n := api.Node{Leaf: a.Leaf, Items: slices.Clone(a.Items), Kids: slices.Concat(a.Kids, b.Kids)}
	if !n.Leaf {
		n.Items = append(n.Items, api.Cell{Key: key})
	}
	n.Items = append(n.Items, b.Items...)
	return n
}

// merge lets the kid k of n have what it and the next one had.
func (t *Tree) merge(n *api.Node, k int, whole api.Node) (e api.Errno) {
	if e = t.write(n.Kids[k], whole); e != api.OK {
		return e
	}
	if e = t.p.Drop(n.Kids[k+1]); e != api.OK {
		return e
	}
	n.Items = slices.Delete(n.Items, k, k+1)
	n.Kids = slices.Delete(n.Kids, k+1, k+2)
	return api.OK
}

// plant lets n be the node on which the tree hangs, at whose page it was top.
func (t *Tree) plant(top int, n api.Node) (e api.Errno) {
	if len(n.Items) == 0 {
		return t.lower(top, n)
	}
	if cell.Size(n) > api.PageSize {
		above := api.Node{Kids: []int{top}}
		if e = t.part(&above, 0, n); e != api.OK {
			return e
		}
		top, n = 0, above
	}
	if top == 0 {
		if top, e = t.p.Allot(); e != api.OK {
			return e
		}
		if e = t.p.SetRoot(t.root, top); e != api.OK {
			return e
		}
	}
	return t.write(top, n)
}

// lower lets the tree hang on what is left of its uppermost node: on one kid, or on nothing.
func (t *Tree) lower(top int, n api.Node) (e api.Errno) {
	below := 0
	if !n.Leaf {
		below = n.Kids[0]
	}
	if e = t.p.SetRoot(t.root, below); e != api.OK {
		return e
	}
	return t.p.Drop(top)
}

// write lets the page say the node.
func (t *Tree) write(page int, n api.Node) (e api.Errno) {
	b, e := cell.Put(n)
	if e != api.OK {
		return api.ErrBytes // the pages of which it was made were no tree's
	}
	return t.p.Put(page, b)
}
