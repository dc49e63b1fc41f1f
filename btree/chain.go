package btree

import (
	"brickyard/api"
)

const (
	linkSize = 2 // bytes by which a chain's page names the next one, the low one first; 0: it is the last one
	byteBits = 8
	room     = api.PageSize - linkSize
)

// walk hands each page of the item's chain to visit, with the part of the value that stands there. A value that stands
// in its item has none.
func (t *Tree) walk(c api.Cell, visit func(page int, part []byte) api.Errno) (e api.Errno) {
	var b []byte
	page, left := c.Page, c.Len
pages:
	for left > 0 {
		if b, e = t.page(page); e != api.OK {
			break
		}
		next := int(b[0]) | int(b[1])<<byteBits
		part := b[linkSize:][:min(left, room)]
		left -= len(part)
		switch e = visit(page, part); {
		case e != api.OK:
			break pages
		case (next == 0) != (left == 0): // it has as many pages as its bytes fill
			e = api.ErrBytes
			break pages
		}
		page = next
	}
	return e
}

// value answers the item's value.
func (t *Tree) value(c api.Cell) (value string, e api.Errno) {
	b := []byte(c.Value)
	e = t.walk(c, func(_ int, part []byte) api.Errno {
		b = append(b, part...)
		return api.OK
	})
	if e != api.OK {
		return "", e
	}
	return string(b), api.OK
}

func (t *Tree) dropChain(c api.Cell) api.Errno {
	return t.walk(c, func(page int, _ []byte) api.Errno { return t.p.Drop(page) })
}

// item answers a leaf's item, whose chain is written, if it has one.
func (t *Tree) item(key, value string) (c api.Cell, e api.Errno) {
	if len(value) <= api.MaxInline {
		return api.Cell{Key: key, Value: value}, api.OK
	}
	first, e := t.chain(value)
	return api.Cell{Key: key, Page: first, Len: len(value)}, e
}

// chain writes the value's chain, the last page first, since each one names the next, and answers its first page.
func (t *Tree) chain(value string) (first int, e api.Errno) {
	for at := (len(value) - 1) / room * room; at >= 0; at -= room {
		b := make([]byte, api.PageSize)
		b[0], b[1] = byte(first), byte(first>>byteBits)
		copy(b[linkSize:], value[at:])
		if first, e = t.p.Allot(); e != api.OK {
			return 0, e
		}
		if e = t.p.Put(first, b); e != api.OK {
			return 0, e
		}
	}
	return first, api.OK
}
