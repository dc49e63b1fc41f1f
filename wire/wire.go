// Package wire is layer 1: numbers, texts and lists as bytes, each in one form
// alone, and read back from the front. See shared/doc/01-wire.md.
package wire

import "brickyard/api"

const (
	digitBits = 7                // bits of a digit to the base 128
	digitMask = 1<<digitBits - 1 // the digit within its byte
	moreBit   = 1 << digitBits   // set in each byte of a number but the last

	// The tenth digit has room for the highest one of 64 bits alone.
	lastShift = 9 * digitBits
	lastDigit = 1
)

// PutUint answers the bytes of the number n.
func PutUint(n uint64) []byte { return appendUint(nil, n) }

// PutText answers the bytes of the text s.
func PutText(s string) []byte { return appendText(nil, s) }

// PutList answers the bytes of the list l.
func PutList(l ...string) []byte {
	out := PutUint(uint64(len(l)))
	for _, s := range l {
		out = appendText(out, s)
	}
	return out
}

func appendUint(out []byte, n uint64) []byte {
	for n >= moreBit {
		out = append(out, byte(n&digitMask|moreBit))
		n >>= digitBits
	}
	return append(out, byte(n))
}

func appendText(out []byte, s string) []byte {
	return append(appendUint(out, uint64(len(s))), s...)
}

// Cursor is bytes, and a place in them.
type Cursor struct {
	bytes []byte
	at    int
}

// New answers a cursor at the place 0 of b. It has bytes of its own, since b may be written into later.
func New(b []byte) *Cursor {
	return &Cursor{bytes: append([]byte(nil), b...)}
}

// At answers the cursor's place.
func (c *Cursor) At() int {
	if c == nil {
		return 0
	}
	return c.at
}

// Left answers how many bytes stand behind the cursor's place.
func (c *Cursor) Left() int {
	if c == nil {
		return 0
	}
	return len(c.bytes) - c.at
}

// Uint reads a number of at most most.
func (c *Cursor) Uint(most uint64) (n uint64, e api.Errno) {
	if c == nil {
		return 0, api.ErrNil
	}
	start := c.at
	defer func() { c.goBack(start, e) }()
	n, e = c.number()
	if e == api.OK && n > most {
		return 0, api.ErrLong
	}
	return n, e
}

// Text reads a text of at most most bytes.
func (c *Cursor) Text(most int) (s string, e api.Errno) {
	if c == nil {
		return "", api.ErrNil
	}
	start := c.at
	defer func() { c.goBack(start, e) }()
	n, e := c.count(most)
	if e != api.OK {
		return "", e
	}
	begin := c.at
	c.at += n
	return string(c.bytes[begin:c.at]), api.OK
}

// List reads a list of at most most texts, each of at most longest bytes.
func (c *Cursor) List(most, longest int) (l []string, e api.Errno) {
	if c == nil {
		return nil, api.ErrNil
	}
	start := c.at
	defer func() { c.goBack(start, e) }()
	n, e := c.count(most)
	// No room is made ahead for n texts: bytes that lie about it must not cost memory.
	for e == api.OK && len(l) < n {
		var s string
		s, e = c.Text(longest)
		l = append(l, s)
	}
	if e != api.OK {
		return nil, e
	}
	return l, api.OK
}

// goBack is deferred by every reading call, so that a half-read thing leaves the place as it was.
func (c *Cursor) goBack(start int, e api.Errno) {
	if e != api.OK {
		c.at = start
	}
}

// count reads how many bytes or texts stand behind it. Each text has one byte at least, so that of both
// there can't be more than there are bytes left.
func (c *Cursor) count(most int) (int, api.Errno) {
	n, e := c.number()
	switch {
	case e != api.OK:
		return 0, e
	case most < 0 || n > uint64(most):
		return 0, api.ErrLong
	case n > uint64(c.Left()):
		return 0, api.ErrBytes
	}
	return int(n), api.OK
}

// number reads a number below 2^64. Beside an error the place is anywhere: the calls at the face go back.
func (c *Cursor) number() (uint64, api.Errno) {
	var n uint64
digits:
	for shift := 0; c.at < len(c.bytes); shift += digitBits {
		b := c.bytes[c.at]
		c.at++
		switch {
		case shift == lastShift && b > lastDigit: // 2^64 or above, or an eleventh byte
			break digits
		case b == 0 && shift > 0: // not the number's one form: without this byte it says the same
			break digits
		}
		n |= uint64(b&digitMask) << shift
		if b&moreBit == 0 {
			return n, api.OK
		}
	}
	return 0, api.ErrBytes
}
