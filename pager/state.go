package pager

import (
	"slices"

	"brickyard/api"
	"brickyard/wal"
)

type content [api.PageSize]byte

// state is which pages are allotted and dropped, and the roots; not what the pages have.
type state struct {
	ever    int // the pages from 1 to this one were allotted at some time
	top     int // the dropped page on top of the stack; 0: there is none
	dropped int // how many pages the stack has
	roots   [api.MaxRoots]int
	below   []int // by page: which one lies below it in the stack, itself below the lowest; 0: it is not dropped
}

func (s state) copied() state {
	s.below = slices.Clone(s.below)
	return s
}

func (s *state) has(page int) bool { return page <= s.ever && s.below[page] == 0 }

// next answers the page that is to be allotted, if one is free.
func (s *state) next() int {
	if s.top != 0 {
		return s.top
	}
	return s.ever + 1
}

// allot takes the page that next answered.
func (s *state) allot(page int) {
	if page > s.ever {
		s.ever = page
		return
	}
	s.top = s.below[page]
	if s.top == page {
		s.top = 0
	}
	s.below[page] = 0
	s.dropped--
}

func (s *state) drop(page int) {
	s.below[page] = s.top
	if s.top == 0 {
		s.below[page] = page
	}
	s.top = page
	s.dropped++
}

// own answers what the pager's own page has to say.
func (s *state) own() content {
	return laid(append([]int{s.ever, s.top}, s.roots[:]...)...)
}

// readState answers the state that the pager's own page and the dropped pages say.
func readState(l *wal.Log) (state, api.Errno) {
	own, e := l.Read(0)
	if e != api.OK {
		return state{}, e
	}
	s := state{ever: numberAt(own, 0), top: numberAt(own, 1), below: make([]int, l.Pages())}
	for i := range s.roots {
		s.roots[i] = numberAt(own, 2+i)
	}
	if s.ever >= l.Pages() || s.top > s.ever || slices.Max(s.roots[:]) > s.ever {
		return state{}, api.ErrBlank
	}
	if e := s.walk(l); e != api.OK {
		return state{}, e
	}
	return s, api.OK
}

// walk goes down the stack of dropped pages from its top. Pages that no pager wrote may lead out of it, or round in it:
// such a device is none that Format made.
func (s *state) walk(l *wal.Log) api.Errno {
stack:
	for page := s.top; page != 0; page = s.below[page] {
		b, e := l.Read(page)
		if e != api.OK {
			return e
		}
		below := numberAt(b, 0)
		if below < 1 || below > s.ever {
			return api.ErrBlank
		}
		s.below[page] = below
		s.dropped++
		switch {
		case below == page:
			break stack
		case s.below[below] != 0:
			return api.ErrBlank
		}
	}
	return api.OK
}

const (
	numberSize = 2
	byteBits   = 8
)

// laid answers a page with the numbers behind one another, the lowest byte of each first.
func laid(numbers ...int) (c content) {
	for i, n := range numbers {
		for k := range numberSize {
			c[numberSize*i+k] = byte(n >> (byteBits * k))
		}
	}
	return c
}

// numberAt answers the page's number i.
func numberAt(b []byte, i int) (n int) {
	for k := range numberSize {
		n |= int(b[numberSize*i+k]) << (byteBits * k)
	}
	return n
}
