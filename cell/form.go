package cell

import (
	"brickyard/api"
	"brickyard/wire"
)

const (
	leafKind  = 1
	innerKind = 2

	pageBytes = 2 // of a page's number, the low one first
	byteBits  = 8
	maxPage   = 1<<(pageBytes*byteBits) - 1
)

// wellFormed tells whether n is a leaf or an inner node, be it ever so long.
func wellFormed(n api.Node) bool {
	if !kidsAgree(n) {
		return false
	}
	for i, c := range n.Items {
		switch {
		case !isItem(n.Leaf, c):
			return false
		case i > 0 && n.Items[i-1].Key >= c.Key:
			return false
		}
	}
	return true
}

// kidsAgree tells whether the node has the kids that its kind and its items ask for.
func kidsAgree(n api.Node) bool {
	if n.Leaf {
		return len(n.Kids) == 0
	}
	for _, k := range n.Kids {
		if !isPage(k) {
			return false
		}
	}
	return len(n.Items) > 0 && len(n.Kids) == len(n.Items)+1
}

func isItem(leaf bool, c api.Cell) bool {
	switch {
	case !isKey(c.Key):
		return false
	case !leaf:
		return c == api.Cell{Key: c.Key}
	case c.Page == 0:
		return c.Len == 0 && len(c.Value) <= api.MaxInline
	}
	return c.Value == "" && isPage(c.Page) && c.Len >= 1 && c.Len <= api.MaxValue
}

func isKey(s string) bool { return len(s) >= 1 && len(s) <= api.MaxKey }

func isPage(n int) bool { return n >= 1 && n <= maxPage }

// form answers the form of a well-formed node.
func form(n api.Node) []byte {
	out := appendHead(nil, n.Leaf, len(n.Items))
	if !n.Leaf {
		out = appendPage(out, n.Kids[0])
	}
	for i := range n.Items {
		out = appendPart(out, n, i)
	}
	return out
}

// appendHead lays behind out what stands ahead of the items, but for an inner node's first kid.
func appendHead(out []byte, leaf bool, items int) []byte {
	kind := byte(innerKind)
	if leaf {
		kind = leafKind
	}
	return append(append(out, kind), wire.PutUint(uint64(items))...)
}

// headSize answers how many bytes stand ahead of so many items.
func headSize(leaf bool, items int) int {
	size := len(appendHead(nil, leaf, items))
	if !leaf {
		size += pageBytes
	}
	return size
}

// appendPart lays the part of the item i behind out.
func appendPart(out []byte, n api.Node, i int) []byte {
	c := n.Items[i]
	out = append(out, wire.PutText(c.Key)...)
	switch {
	case !n.Leaf:
		return appendPage(out, n.Kids[i+1])
	case c.Page == 0:
		out = append(out, wire.PutUint(uint64(len(c.Value))<<1)...)
		return append(out, c.Value...)
	}
	out = append(out, wire.PutUint(uint64(c.Len)<<1|1)...)
	return appendPage(out, c.Page)
}

func appendPage(out []byte, page int) []byte {
	return append(out, byte(page), byte(page>>byteBits))
}

// read answers the node that a page says, which need not be well-formed. It tells false of what no
// well-formed node's form says, where the node itself doesn't show it.
func read(b []byte) (api.Node, bool) {
	r := reader{cursor: wire.New(b), rest: b}
	kind := r.number(innerKind)
	count := r.number(api.PageSize) // an item has more than one byte
	n := api.Node{Leaf: kind == leafKind}
	if !n.Leaf {
		n.Kids = append(n.Kids, r.page())
	}
items:
	for range count {
		c := api.Cell{Key: r.text(api.MaxKey)}
		switch {
		case r.bad:
			break items
		case n.Leaf:
			r.value(&c)
		default:
			n.Kids = append(n.Kids, r.page())
		}
		n.Items = append(n.Items, c)
	}
	return n, !r.bad && kind != 0 && r.onlyNoughts()
}

// reader reads a page's parts one behind the other. Behind the first thing that says nothing it is bad,
// and answers zeros.
type reader struct {
	cursor *wire.Cursor
	rest   []byte // what the cursor was made of
	bad    bool
}

func (r *reader) number(most uint64) uint64 {
	n, e := r.cursor.Uint(most)
	r.bad = r.bad || e != api.OK
	return n
}

func (r *reader) text(most int) string {
	s, e := r.cursor.Text(most)
	r.bad = r.bad || e != api.OK
	return s
}

// bytes reads n bytes that no number stands ahead of. A cursor can't, so that a new one goes on behind them.
func (r *reader) bytes(n int) []byte {
	if r.bad || n > r.cursor.Left() {
		r.bad = true
		return nil
	}
	from := r.cursor.At()
	b := r.rest[from : from+n]
	r.rest = r.rest[from+n:]
	r.cursor = wire.New(r.rest)
	return b
}

func (r *reader) page() int {
	b := r.bytes(pageBytes)
	if r.bad {
		return 0
	}
	return int(b[0]) | int(b[1])<<byteBits
}

// value reads the item's value, or where its chain begins.
func (r *reader) value(c *api.Cell) {
	n := r.number(api.MaxValue<<1 | 1)
	if n&1 == 0 {
		c.Value = string(r.bytes(int(n >> 1)))
		return
	}
	c.Len = int(n >> 1)
	c.Page = r.page()
	// A chain of no bytes at no page would look like the empty value, which has another form.
	r.bad = r.bad || c.Page == 0
}

// onlyNoughts tells whether nothing but noughts is left.
func (r *reader) onlyNoughts() bool {
	for _, b := range r.rest[r.cursor.At():] {
		if b != 0 {
			return false
		}
	}
	return true
}
