package cell_test

import (
	"bytes"
	"math/rand"
	"slices"
	"strings"
	"testing"

	"brickyard/api"
	"brickyard/cell"
)

// handForm writes a node's form as the chapter says it, by itself.
func handForm(n api.Node) []byte {
	var out []byte
	number := func(n int) {
		for ; n >= 128; n /= 128 {
			out = append(out, byte(n%128+128))
		}
		out = append(out, byte(n))
	}
	kid := func(n int) { out = append(out, byte(n%256), byte(n/256)) }
	if n.Leaf {
		number(1)
		number(len(n.Items))
	} else {
		number(2)
		number(len(n.Items))
		kid(n.Kids[0])
	}
	for i, c := range n.Items {
		number(len(c.Key))
		out = append(out, c.Key...)
		switch {
		case !n.Leaf:
			kid(n.Kids[i+1])
		case c.Page == 0:
			number(2 * len(c.Value))
			out = append(out, c.Value...)
		default:
			number(2*c.Len + 1)
			kid(c.Page)
		}
	}
	return out
}

// someText is of at most most bytes, at one time of a few of all bytes, at another of any.
func someText(r *rand.Rand, least, most int) string {
	b := make([]byte, least+r.Intn(most-least+1))
	if r.Intn(3) == 0 {
		b = b[:least+r.Intn(min(3, len(b)-least+1))]
	}
	for i := range b {
		b[i] = byte(r.Intn(256))
	}
	return string(b)
}

func someKeys(r *rand.Rand, n int) []string {
	longest := []int{2, 8, 64}[r.Intn(3)]
	var keys []string
	for range n {
		keys = append(keys, someText(r, 1, longest))
	}
	slices.Sort(keys)
	return slices.Compact(keys)
}

func someItem(r *rand.Rand, key string) api.Cell {
	if r.Intn(4) == 0 {
		return api.Cell{Key: key, Page: 1 + r.Intn(maxPage), Len: 1 + r.Intn(api.MaxValue)}
	}
	return api.Cell{Key: key, Value: someText(r, 0, []int{0, 4, 32}[r.Intn(3)])}
}

// someNode is a well-formed node of at most some items.
func someNode(r *rand.Rand, most int) api.Node {
	keys := someKeys(r, 1+r.Intn(most))
	if r.Intn(2) == 0 {
		n := innerOf([]int{1 + r.Intn(maxPage)})
		for _, k := range keys {
			n.Items = append(n.Items, api.Cell{Key: k})
			n.Kids = append(n.Kids, 1+r.Intn(maxPage))
		}
		return n
	}
	n := leaf()
	for _, k := range keys {
		n.Items = append(n.Items, someItem(r, k))
	}
	return n
}

// fitting is a node that fits, as full as someNode and cutting make it.
func fitting(r *rand.Rand) api.Node {
	n := someNode(r, 60)
	for len(handForm(n)) > api.PageSize {
		n.Items = n.Items[:len(n.Items)-1]
		if !n.Leaf {
			n.Kids = n.Kids[:len(n.Kids)-1]
		}
	}
	return n
}

// oneMore is the node with an item more, at the place where its key belongs.
func oneMore(r *rand.Rand, n api.Node) api.Node {
	for {
		c := someItem(r, someText(r, 1, api.MaxKey))
		if r.Intn(2) == 0 {
			c = api.Cell{Key: keyOf(c.Key[:1], api.MaxKey), Value: strings.Repeat("v", api.MaxInline)}
		}
		if !n.Leaf {
			c = api.Cell{Key: c.Key}
		}
		at := 0
		for at < len(n.Items) && n.Items[at].Key < c.Key {
			at++
		}
		if at < len(n.Items) && n.Items[at].Key == c.Key {
			continue
		}
		m := api.Node{Leaf: n.Leaf, Items: slices.Insert(slices.Clone(n.Items), at, c)}
		if !n.Leaf {
			m.Kids = slices.Insert(slices.Clone(n.Kids), at, 1+r.Intn(maxPage))
		}
		return m
	}
}

// P6.1, P6.2, P6.3, P6.4, P6.8

func TestSomeNodes(t *testing.T) {
	r := rand.New(rand.NewSource(6))
	for range 4000 {
		n := someNode(r, []int{3, 10, 60, 300}[r.Intn(4)])
		f := handForm(n)
		if s := cell.Size(n); s != len(f) {
			t.Fatalf("Size(%v): %d, want %d", n, s, len(f))
		}
		wantFound(t, r, n)
		if len(n.Items) > 2 {
			wantBestHalf(t, n)
		}
		if len(f) > api.PageSize {
			if e := cell.Check(n); e != api.ErrLong {
				t.Fatalf("Check(%v): %d", n, e)
			}
			continue
		}
		b := page(t, n)
		if !bytes.Equal(b, padded(f...)) {
			t.Fatalf("Put(%v): % x", n, b)
		}
		if m, e := cell.Get(b); e != api.OK || !same(m, n) {
			t.Fatalf("Get of Put: %v, %d, want %v", m, e, n)
		}
	}
}

// wantFound holds Find against going through all keys.
func wantFound(t *testing.T, r *rand.Rand, n api.Node) {
	t.Helper()
	key := someText(r, 0, 3)
	if r.Intn(2) == 0 {
		key = n.Items[r.Intn(len(n.Items))].Key
	}
	want, is := 0, false
	for _, c := range n.Items {
		if c.Key < key || !n.Leaf && c.Key == key {
			want++
		}
		is = is || c.Key == key
	}
	if i, found := cell.Find(n, key); i != want || found != is {
		t.Fatalf("Find(%v, %q): %d, %v", n, key, i, found)
	}
}

// Of bytes that are nearly pages Get answers a node whose page they are, or ErrBytes.
func TestSomeBytes(t *testing.T) {
	r := rand.New(rand.NewSource(7))
	said := 0
	for range 30000 {
		b := page(t, fitting(r))
		for range 1 + r.Intn(3) {
			switch r.Intn(3) {
			case 0:
				b[r.Intn(len(b))] = byte(r.Intn(256))
			case 1:
				b[r.Intn(12)] = byte(r.Intn(4))
			case 2:
				at := r.Intn(len(b))
				copy(b[at:], b[min(at+1+r.Intn(4), len(b)):])
			}
		}
		if wantPageOrNone(t, "some bytes", b) {
			said++
		}
	}
	if said < 1000 || said > 29000 {
		t.Errorf("%d of the pages say a node", said)
	}
}

// P6.6

func TestBothHalvesFit(t *testing.T) {
	r := rand.New(rand.NewSource(8))
	parted := 0
	for range 20000 {
		n := oneMore(r, fitting(r))
		if cell.Check(n) != api.ErrLong {
			continue
		}
		parted++
		a, _, b, e := cell.Half(n)
		if e != api.OK || cell.Check(a) != api.OK || cell.Check(b) != api.OK {
			t.Fatalf("Half of %d bytes, %v: %d and %d bytes, %d", cell.Size(n), n, cell.Size(a), cell.Size(b), e)
		}
	}
	if parted < 1000 {
		t.Errorf("%d nodes were parted", parted)
	}
}

// The hardest: full pages of the longest items, and one more of them at each place.
func TestBothHalvesOfTheLongestFit(t *testing.T) {
	c := func(key string, n, value int) api.Cell {
		return api.Cell{Key: keyOf(key, n), Value: strings.Repeat("v", value)}
	}
	full := leafOf(c("b", 64, 32), c("d", 64, 32), c("f", 10, 30))
	inners := inner(1, keyOf("b", 64), keyOf("d", 64), keyOf("f", 64), keyOf("h", 32))
	for _, first := range []string{"a", "c", "e", "g", "i"} {
		for _, n := range []api.Node{full, inners} {
			m := api.Node{Leaf: n.Leaf}
			at, _ := cell.Find(n, first)
			if n.Leaf {
				m.Items = slices.Insert(slices.Clone(n.Items), at, c(first, 64, 32))
			} else {
				m.Items = slices.Insert(slices.Clone(n.Items), at, api.Cell{Key: keyOf(first, 64)})
				m.Kids = slices.Insert(slices.Clone(n.Kids), at, 99)
			}
			a, _, b, e := cell.Half(m)
			if e != api.OK || cell.Check(a) != api.OK || cell.Check(b) != api.OK {
				t.Errorf("%q: %d and %d bytes, %d", first, cell.Size(a), cell.Size(b), e)
			}
		}
	}
}

// P6.7

func TestJoinOfHalves(t *testing.T) {
	r := rand.New(rand.NewSource(9))
	joined, long := 0, 0
	for range 8000 {
		n := fitting(r)
		if r.Intn(2) == 0 {
			n = oneMore(r, n)
		}
		a, key, b, e := cell.Half(n)
		if e == api.ErrNone {
			continue
		}
		m, e := cell.Join(a, key, b)
		if cell.Check(n) == api.ErrLong {
			long++
			wantJoinErr(t, "Join of halves", a, key, b, api.ErrLong)
			continue
		}
		joined++
		if e != api.OK || !same(m, n) {
			t.Fatalf("Join of Half(%v): %v, %d", n, m, e)
		}
	}
	if joined < 1000 || long < 1000 {
		t.Errorf("%d joined, %d too long", joined, long)
	}
}
