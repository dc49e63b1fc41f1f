package cell_test

import (
	"bytes"
	"math"
	"reflect"
	"slices"
	"strconv"
	"strings"
	"testing"

	"brickyard/api"
	"brickyard/cell"
)

const maxPage = 65535

// leaf is a leaf of keys, each with the value "v".
func leaf(keys ...string) api.Node {
	n := api.Node{Leaf: true}
	for _, k := range keys {
		n.Items = append(n.Items, api.Cell{Key: k, Value: "v"})
	}
	return n
}

func leafOf(items ...api.Cell) api.Node { return api.Node{Leaf: true, Items: items} }

// inner is an inner node of keys, whose kids are first, first + 1, ..
func inner(first int, keys ...string) api.Node {
	n := api.Node{Kids: []int{first}}
	for i, k := range keys {
		n.Items = append(n.Items, api.Cell{Key: k})
		n.Kids = append(n.Kids, first+i+1)
	}
	return n
}

func innerOf(kids []int, items ...api.Cell) api.Node { return api.Node{Items: items, Kids: kids} }

func text(n int) string { return strings.Repeat("k", n) }

// keyOf is a key of n bytes that begins with b.
func keyOf(b string, n int) string { return b + strings.Repeat(".", n-len(b)) }

// numbered are n keys of 4 bytes, rising.
func numbered(n int) []string {
	var keys []string
	for i := range n {
		keys = append(keys, strconv.FormatInt(int64(i)+36*36*36, 36))
	}
	return keys
}

// same holds nodes against each other; nil and empty lists are one.
func same(a, b api.Node) bool {
	return a.Leaf == b.Leaf && slices.Equal(a.Items, b.Items) && slices.Equal(a.Kids, b.Kids)
}

func wantNone(t *testing.T, what string, n api.Node) {
	t.Helper()
	if !reflect.ValueOf(n).IsZero() {
		t.Errorf("%s: %v beside an error", what, n)
	}
}

// page puts a node that must fit.
func page(t *testing.T, n api.Node) []byte {
	t.Helper()
	b, e := cell.Put(n)
	if e != api.OK || len(b) != api.PageSize {
		t.Fatalf("Put(%v): %d bytes, %d", n, len(b), e)
	}
	return b
}

// padded is a page that begins with the bytes.
func padded(b ...byte) []byte {
	return append(b, make([]byte, max(0, api.PageSize-len(b)))...)
}

func wantBytesErr(t *testing.T, what string, b []byte) {
	t.Helper()
	n, e := cell.Get(b)
	if e != api.ErrBytes {
		t.Errorf("%s: Get: %d, want ErrBytes", what, e)
	}
	wantNone(t, what, n)
}

// illFormed are nodes that are neither a leaf nor an inner node.
func illFormed() map[string]api.Node {
	k := api.Cell{Key: "k"}
	chain := func(page, n int) api.Node { return leafOf(api.Cell{Key: "k", Page: page, Len: n}) }
	kid := func(kids ...int) api.Node { return innerOf(kids, k) }
	return map[string]api.Node{
		"leaf, empty key":            leaf(""),
		"leaf, key too long":         leaf(text(api.MaxKey + 1)),
		"leaf, a later empty key":    leaf("a", ""),
		"leaf, a later long key":     leaf("a", text(api.MaxKey+1)),
		"leaf, alike keys":           leaf("a", "b", "b"),
		"leaf, falling keys":         leaf("a", "c", "b"),
		"leaf, falling beginning":    leaf("ab", "a"),
		"leaf, high byte ahead":      leaf("\x80", "\x7f"),
		"leaf, value too long":       leafOf(api.Cell{Key: "k", Value: text(api.MaxInline + 1)}),
		"leaf, value and page":       leafOf(api.Cell{Key: "k", Value: "v", Page: 1, Len: 1}),
		"leaf, value and its len":    leafOf(api.Cell{Key: "k", Value: "v", Len: 1}),
		"leaf, value and page alone": leafOf(api.Cell{Key: "k", Value: "v", Page: 1}),
		"leaf, a kid":                {Leaf: true, Kids: []int{1}},
		"leaf, items and kids":       {Leaf: true, Items: []api.Cell{k}, Kids: []int{1, 2}},
		"chain, page 0":              chain(0, 1),
		"chain, page 65536":          chain(maxPage+1, 1),
		"chain, page below 0":        chain(-1, 1),
		"chain, page far below":      chain(math.MinInt, 1),
		"chain, huge page":           chain(math.MaxInt, 1),
		"chain, len 0":               chain(1, 0),
		"chain, len too great":       chain(1, api.MaxValue+1),
		"chain, len below 0":         chain(1, -1),
		"chain, huge len":            chain(1, math.MaxInt),
		"no page, len below 0":       chain(0, -1),
		"zero node":                  {},
		"inner, one kid, no item":    {Kids: []int{1}},
		"inner, two kids, no item":   {Kids: []int{1, 2}},
		"inner, no kid":              kid(),
		"inner, as many kids":        kid(1),
		"inner, two more kids":       kid(1, 2, 3),
		"inner, first kid 0":         kid(0, 1),
		"inner, last kid 0":          kid(1, 0),
		"inner, kid 65536":           kid(1, maxPage+1),
		"inner, kid below 0":         kid(-1, 1),
		"inner, huge kid":            kid(math.MaxInt, 1),
		"inner, empty key":           inner(1, ""),
		"inner, key too long":        inner(1, text(api.MaxKey+1)),
		"inner, alike keys":          inner(1, "a", "a"),
		"inner, falling keys":        inner(1, "b", "a"),
		"inner, a value":             innerOf([]int{1, 2}, api.Cell{Key: "k", Value: "v"}),
		"inner, a page":              innerOf([]int{1, 2}, api.Cell{Key: "k", Page: 1}),
		"inner, a len":               innerOf([]int{1, 2}, api.Cell{Key: "k", Len: 1}),
		"inner, a chain":             innerOf([]int{1, 2}, api.Cell{Key: "k", Page: 1, Len: 1}),
	}
}

type formed struct {
	n    api.Node
	form []byte
}

// wellFormed are nodes that fit, and their forms written out.
func wellFormed() map[string]formed {
	with := func(b []byte, parts ...string) []byte { return append(b, strings.Join(parts, "")...) }
	b := func(b ...byte) []byte { return b }
	chain := func(page, n int) api.Node { return leafOf(api.Cell{Key: "k", Page: page, Len: n}) }
	return map[string]formed{
		"empty leaf":       {leaf(), b(1, 0)},
		"leaf a: xy":       {leafOf(api.Cell{Key: "a", Value: "xy"}), b(1, 1, 1, 'a', 4, 'x', 'y')},
		"empty value":      {leafOf(api.Cell{Key: "a"}), b(1, 1, 1, 'a', 0)},
		"longest key":      {leafOf(api.Cell{Key: text(64)}), with(b(1, 1, 64), text(64), "\x00")},
		"longest value":    {leafOf(api.Cell{Key: "a", Value: text(32)}), with(b(1, 1, 1, 'a', 64), text(32))},
		"any bytes":        {leafOf(api.Cell{Key: "\x00", Value: "\xff\x00"}), b(1, 1, 1, 0, 4, 255, 0)},
		"chain 1 1":        {chain(1, 1), b(1, 1, 1, 'k', 3, 1, 0)},
		"chain, len 63":    {chain(1, 63), b(1, 1, 1, 'k', 127, 1, 0)},
		"chain, len 64":    {chain(1, 64), b(1, 1, 1, 'k', 129, 1, 1, 0)},
		"chain, the most":  {chain(maxPage, api.MaxValue), b(1, 1, 1, 'k', 129, 72, 255, 255)},
		"chain, page 258":  {chain(258, 2), b(1, 1, 1, 'k', 5, 2, 1)},
		"value and chain":  {leafOf(api.Cell{Key: "a", Value: "v"}, api.Cell{Key: "b", Page: 256, Len: 33}), b(1, 2, 1, 'a', 2, 'v', 1, 'b', 67, 0, 1)},
		"chain and value":  {leafOf(api.Cell{Key: "a", Page: 1, Len: 1}, api.Cell{Key: "ab", Value: "v"}), b(1, 2, 1, 'a', 3, 1, 0, 2, 'a', 'b', 2, 'v')},
		"inner 5 b 7":      {innerOf([]int{5, 7}, api.Cell{Key: "b"}), b(2, 1, 5, 0, 1, 'b', 7, 0)},
		"inner, kids edge": {innerOf([]int{maxPage, 1}, api.Cell{Key: "b"}), b(2, 1, 255, 255, 1, 'b', 1, 0)},
		"inner, alike kid": {innerOf([]int{3, 3}, api.Cell{Key: "b"}), b(2, 1, 3, 0, 1, 'b', 3, 0)},
		"inner, two keys":  {inner(256, "a", "b"), b(2, 2, 0, 1, 1, 'a', 1, 1, 1, 'b', 2, 1)},
		"inner, long key":  {innerOf([]int{1, 2}, api.Cell{Key: text(64)}), with(b(2, 1, 1, 0, 64), text(64), "\x02\x00")},
	}
}

// long are well-formed nodes of the size said.
func long() map[int][]api.Node {
	v := func(b string, key, value int) api.Cell {
		return api.Cell{Key: keyOf(b, key), Value: text(value)}
	}
	many := func(n int) api.Node {
		m := leaf()
		for _, k := range numbered(n) {
			m.Items = append(m.Items, api.Cell{Key: k})
		}
		return m
	}
	return map[int][]api.Node{
		240: {
			leafOf(v("a", 64, 32), v("b", 64, 32), v("c", 10, 30)),
			inner(1, keyOf("a", 64), keyOf("b", 64), keyOf("c", 64), keyOf("d", 32)),
		},
		241: {
			leafOf(v("a", 64, 32), v("b", 64, 32), v("c", 10, 31)),
			leafOf(v("a", 64, 32), v("b", 64, 32), v("c", 11, 30)),
			inner(1, keyOf("a", 64), keyOf("b", 64), keyOf("c", 64), keyOf("d", 33)),
		},
		2 + 127*6:        {many(127)},
		3 + 128*6:        {many(128)},
		3 + 16383*6:      {many(16383)},
		4 + 16384*6:      {many(16384)},
		1 + 2 + 2 + 7000: {inner(1, numbered(1000)...)},
	}
}

// P6.1

func TestCheckAndSizeOfIllFormed(t *testing.T) {
	for what, n := range illFormed() {
		if e := cell.Check(n); e != api.ErrArg {
			t.Errorf("%s: Check: %d, want ErrArg", what, e)
		}
		if s := cell.Size(n); s != 0 {
			t.Errorf("%s: Size: %d, want 0", what, s)
		}
	}
}

func TestCheckAndSizeOfWellFormed(t *testing.T) {
	for what, x := range wellFormed() {
		if e := cell.Check(x.n); e != api.OK {
			t.Errorf("%s: Check: %d", what, e)
		}
		if s := cell.Size(x.n); s != len(x.form) {
			t.Errorf("%s: Size: %d, want %d", what, s, len(x.form))
		}
	}
}

func TestCheckAndSizeOfLong(t *testing.T) {
	for size, nodes := range long() {
		want := api.OK
		if size > api.PageSize {
			want = api.ErrLong
		}
		for i, n := range nodes {
			if e := cell.Check(n); e != want {
				t.Errorf("%d bytes, %d: Check: %d, want %d", size, i, e, want)
			}
			if s := cell.Size(n); s != size {
				t.Errorf("%d bytes, %d: Size: %d", size, i, s)
			}
		}
	}
}

func TestIllFormedGoesAheadOfLong(t *testing.T) {
	keys := numbered(1000)
	keys[999] = "0"
	for _, n := range []api.Node{leaf(keys...), inner(1, keys...), {Leaf: true, Items: leaf(numbered(99)...).Items, Kids: []int{1}}} {
		if e := cell.Check(n); e != api.ErrArg {
			t.Errorf("Check: %d, want ErrArg", e)
		}
		if b, e := cell.Put(n); len(b) != 0 || e != api.ErrArg {
			t.Errorf("Put: %d bytes, %d, want ErrArg", len(b), e)
		}
		if s := cell.Size(n); s != 0 {
			t.Errorf("Size: %d", s)
		}
	}
}

func TestEmptyListsAreAsNil(t *testing.T) {
	n := api.Node{Leaf: true, Items: []api.Cell{}, Kids: []int{}}
	if e, s := cell.Check(n), cell.Size(n); e != api.OK || s != 2 {
		t.Errorf("%d, %d", e, s)
	}
	if e := cell.Check(api.Node{Items: []api.Cell{}, Kids: []int{}}); e != api.ErrArg {
		t.Errorf("no leaf: %d", e)
	}
}

// P6.2

func TestPut(t *testing.T) {
	for what, x := range wellFormed() {
		if b := page(t, x.n); !bytes.Equal(b, padded(x.form...)) {
			t.Errorf("%s: Put: % x", what, b)
		}
	}
	for what, n := range illFormed() {
		if b, e := cell.Put(n); len(b) != 0 || e != api.ErrArg {
			t.Errorf("%s: Put: %d bytes, %d", what, len(b), e)
		}
	}
	for size, nodes := range long() {
		for i, n := range nodes {
			b, e := cell.Put(n)
			if ok := size <= api.PageSize; ok != (e == api.OK) || !ok && (e != api.ErrLong || len(b) != 0) || ok && len(b) != api.PageSize {
				t.Errorf("%d bytes, %d: Put: %d bytes, %d", size, i, len(b), e)
			}
		}
	}
}

func TestGet(t *testing.T) {
	for what, x := range wellFormed() {
		n, e := cell.Get(padded(x.form...))
		if e != api.OK || !same(n, x.n) {
			t.Errorf("%s: Get: %v, %d", what, n, e)
		}
		if n.Leaf && n.Kids != nil || len(n.Items) == 0 && n.Items != nil {
			t.Errorf("%s: Get: a list of none is not nil", what)
		}
	}
	for _, n := range long()[api.PageSize] {
		if m, e := cell.Get(page(t, n)); e != api.OK || !same(n, m) {
			t.Errorf("just a page: Get: %v, %d", m, e)
		}
	}
}

func TestGetOfOtherLengths(t *testing.T) {
	for what, x := range wellFormed() {
		b := padded(x.form...)
		wantBytesErr(t, what+", 239 bytes", b[:239])
		wantBytesErr(t, what+", 241 bytes", append(slices.Clone(b), 0))
		wantBytesErr(t, what+", its form alone", x.form)
		wantBytesErr(t, what+", two pages", append(slices.Clone(b), b...))
	}
	wantBytesErr(t, "nil", nil)
	wantBytesErr(t, "empty", []byte{})
	wantBytesErr(t, "255 noughts", make([]byte, 255))
}

func TestGetOfBytesThatSayNothing(t *testing.T) {
	for what, b := range map[string][]byte{
		"noughts":                        padded(),
		"kind 0":                         padded(0, 1, 1, 'a', 0),
		"kind 3":                         padded(3, 1, 1, 'a', 0),
		"kind 129":                       padded(129, 0, 0),
		"kind in a longer form":          padded(129, 0, 1, 1, 'a', 0),
		"kind 2 in a longer form":        padded(130, 0, 1, 5, 0, 1, 'b', 7, 0),
		"count in a longer form":         padded(1, 129, 0, 1, 'a', 0),
		"count 0 in a longer form":       padded(1, 128, 0),
		"count above the page":           padded(1, 241, 1),
		"a huge count":                   padded(1, 255, 255, 255, 255, 255, 255, 255, 255, 255, 1),
		"a count of too many bits":       padded(1, 255, 255, 255, 255, 255, 255, 255, 255, 255, 2),
		"more items than there are":      padded(1, 2, 1, 'a', 0),
		"key length in a longer form":    padded(1, 1, 129, 0, 'a', 0),
		"empty key":                      padded(1, 1, 0, 0),
		"key of 65 bytes":                padded(append([]byte{1, 1, 65}, text(65)...)...),
		"keys alike":                     padded(1, 2, 1, 'a', 0, 1, 'a', 0),
		"keys falling":                   padded(1, 2, 1, 'b', 0, 1, 'a', 0),
		"inner keys falling":             padded(2, 2, 1, 0, 1, 'b', 2, 0, 1, 'a', 3, 0),
		"value length in a longer form":  padded(1, 1, 1, 'a', 130, 0, 'v'),
		"empty value in a longer form":   padded(1, 1, 1, 'a', 128, 0),
		"value of 33 bytes":              padded(append([]byte{1, 1, 1, 'a', 66}, text(33)...)...),
		"value past the page":            padded(1, 1, 1, 'a', 128, 72),
		"chain of page 0":                padded(1, 1, 1, 'a', 3, 0, 0),
		"chain of no bytes":              padded(1, 1, 1, 'a', 1, 1, 0),
		"chain of no bytes at page 0":    padded(1, 1, 1, 'a', 1, 0, 0),
		"chain of 4609 bytes":            padded(1, 1, 1, 'a', 131, 72, 1, 0),
		"chain of very many bytes":       padded(1, 1, 1, 'a', 255, 255, 255, 255, 255, 255, 255, 255, 255, 1, 1, 0),
		"chain length in a longer form":  padded(1, 1, 1, 'a', 131, 0, 1, 0),
		"inner without items":            padded(2, 0, 1, 0),
		"first kid 0":                    padded(2, 1, 0, 0, 1, 'b', 7, 0),
		"last kid 0":                     padded(2, 1, 5, 0, 1, 'b', 0, 0),
		"inner, empty key":               padded(2, 1, 5, 0, 0, 7, 0),
		"inner, key in a longer form":    padded(2, 1, 5, 0, 129, 0, 'b', 7, 0),
		"a byte behind the empty leaf":   padded(1, 0, 1),
		"a byte behind a leaf":           padded(1, 1, 1, 'a', 0, 9),
		"a byte behind an inner node":    padded(2, 1, 5, 0, 1, 'b', 7, 0, 1),
		"a byte far behind":              append(padded(1, 0)[:239], 1),
		"a byte far behind a chain":      append(padded(1, 1, 1, 'a', 3, 1, 0)[:239], 128),
		"nothing but 255":                bytes.Repeat([]byte{255}, api.PageSize),
		"nothing but 1":                  bytes.Repeat([]byte{1}, api.PageSize),
		"nothing but 2":                  bytes.Repeat([]byte{2}, api.PageSize),
		"an item's form as a whole page": padded(append([]byte{1, 'a', 2}, text(240)...)...)[:240],
	} {
		wantBytesErr(t, what, b)
	}
}

func TestGetOfFormsThatEndPastThePage(t *testing.T) {
	full := page(t, long()[api.PageSize][0])
	more := slices.Clone(full)
	more[1]++
	wantBytesErr(t, "an item more", more)
	longer := slices.Clone(full)
	longer[len(longer)-31] += 2
	wantBytesErr(t, "a value of a byte more", longer)

	inners := page(t, long()[api.PageSize][1])
	inners[1]++
	wantBytesErr(t, "a key more", inners)

	for size, nodes := range long() {
		if size != api.PageSize+1 {
			continue
		}
		for i, n := range nodes {
			wantBytesErr(t, "cut "+strconv.Itoa(i), handForm(n)[:api.PageSize])
		}
	}
	// of a chain at the page's end the last byte, or both, of its page's number are missing
	for _, room := range []int{239, 240} {
		head := []byte{1, 4}
		for _, k := range []string{keyOf("a", 64), keyOf("b", 64), keyOf("c", 64)} {
			head = append(append(append(head, 64), k...), 0)
		}
		key := room - len(head) - 2
		b := append(append(append(head, byte(key)), keyOf("d", key)...), 3, 1, 0)
		wantBytesErr(t, "a chain cut at "+strconv.Itoa(room), b[:api.PageSize])
	}
}

// P6.2, P6.8

func TestGetOfOneByteChanged(t *testing.T) {
	for what, x := range wellFormed() {
		b := padded(x.form...)
		for at := range b {
			was := b[at]
			for by := range 256 {
				if at > len(x.form)+1 && by&(by-1) != 0 {
					continue // far behind the form a few bytes are enough
				}
				b[at] = byte(by)
				wantPageOrNone(t, what, b)
			}
			b[at] = was
		}
	}
}

// wantPageOrNone: b are the bytes that Put answers of what Get answers of them, or Get answers ErrBytes. It
// tells which.
func wantPageOrNone(t *testing.T, what string, b []byte) bool {
	t.Helper()
	n, e := cell.Get(b)
	if e != api.OK {
		if e != api.ErrBytes {
			t.Errorf("%s: Get: %d", what, e)
		}
		wantNone(t, what, n)
		return false
	}
	if again := page(t, n); !bytes.Equal(again, b) {
		t.Errorf("%s: Put of Get: % x, not % x", what, again, b)
	}
	return true
}

// P6.3

func TestFind(t *testing.T) {
	abc := []string{"b", "d", "dd", "f"}
	for _, x := range []struct {
		key   string
		leaf  int
		inner int
		is    bool
	}{
		{"", 0, 0, false}, {"a", 0, 0, false}, {"\x00", 0, 0, false},
		{"b", 0, 1, true}, {"b\x00", 1, 1, false}, {"c", 1, 1, false},
		{"d", 1, 2, true}, {"d\x00", 2, 2, false}, {"dd", 2, 3, true}, {"ddd", 3, 3, false},
		{"f", 3, 4, true}, {"g", 4, 4, false}, {"\xff", 4, 4, false}, {text(200), 4, 4, false}, {"b" + text(200), 1, 1, false},
	} {
		if i, is := cell.Find(leaf(abc...), x.key); i != x.leaf || is != x.is {
			t.Errorf("leaf, %q: %d, %v", x.key, i, is)
		}
		if i, is := cell.Find(inner(1, abc...), x.key); i != x.inner || is != x.is {
			t.Errorf("inner, %q: %d, %v", x.key, i, is)
		}
	}
	if i, is := cell.Find(leaf(), "a"); i != 0 || is {
		t.Errorf("empty leaf: %d, %v", i, is)
	}
	if i, is := cell.Find(innerOf([]int{5, 7}, api.Cell{Key: "b"}), "b"); i != 1 || !is {
		t.Errorf("example: %d, %v", i, is)
	}
}

func TestFindInNodesThatDoNotFit(t *testing.T) {
	keys := numbered(3000)
	l, n := leaf(keys...), inner(1, keys...)
	for i, k := range keys {
		if at, is := cell.Find(l, k); i%100 == 0 && (at != i || !is) {
			t.Fatalf("leaf, %q: %d, %v", k, at, is)
		}
		if at, is := cell.Find(n, k); i%100 == 0 && (at != i+1 || !is) {
			t.Fatalf("inner, %q: %d, %v", k, at, is)
		}
	}
}

func TestFindInIllFormed(t *testing.T) {
	for what, n := range illFormed() {
		for _, key := range []string{"", "a", "b", "k", "v", "zz", text(api.MaxKey + 1)} {
			if i, is := cell.Find(n, key); i != 0 || is {
				t.Errorf("%s, %q: %d, %v", what, key, i, is)
			}
		}
	}
}

// P6.4

func wantHalf(t *testing.T, n, a api.Node, key string, b api.Node) {
	t.Helper()
	x, k, y, e := cell.Half(n)
	if e != api.OK || k != key || !same(x, a) || !same(y, b) {
		t.Errorf("Half(%v): %v, %q, %v, %d", n, x, k, y, e)
	}
}

func TestHalf(t *testing.T) {
	wantHalf(t, leaf("a", "b"), leaf("a"), "b", leaf("b"))
	wantHalf(t, leaf("a", "b", "c"), leaf("a"), "b", leaf("b", "c"))
	wantHalf(t, leaf("a", "b", "c", "d"), leaf("a", "b"), "c", leaf("c", "d"))
	wantHalf(t, inner(1, "a", "b", "c"), inner(1, "a"), "b", inner(3, "c"))
	wantHalf(t, inner(1, "a", "b", "c", "d"), inner(1, "a"), "b", inner(3, "c", "d"))
	wantHalf(t, inner(1, "a", "b", "c", "d", "e"), inner(1, "a", "b"), "c", inner(4, "d", "e"))
	wantHalf(t, innerOf([]int{9, 9, 9, 8}, inner(1, "a", "b", "c").Items...), innerOf([]int{9, 9}, api.Cell{Key: "a"}), "b", innerOf([]int{9, 8}, api.Cell{Key: "c"}))
}

func TestHalfOfUnlikeSizes(t *testing.T) {
	c := func(key string, value int) api.Cell { return api.Cell{Key: key, Value: text(value)} }
	chain := api.Cell{Key: "c", Page: 1, Len: api.MaxValue}
	wantHalf(t, leafOf(c("a", 32), c("b", 0), c("c", 0), c("d", 0)), leafOf(c("a", 32)), "b", leafOf(c("b", 0), c("c", 0), c("d", 0)))
	wantHalf(t, leafOf(c("a", 0), c("b", 0), c("c", 0), c("d", 32)), leafOf(c("a", 0), c("b", 0), c("c", 0)), "d", leafOf(c("d", 32)))
	// a chain of many bytes is short in its item
	wantHalf(t, leafOf(c("a", 5), c("b", 1), chain, c("d", 1)), leafOf(c("a", 5), c("b", 1)), "c", leafOf(chain, c("d", 1)))
	// the key that goes up counts for neither half
	wantHalf(t, inner(1, "a", "b", keyOf("c", 64), "d"), inner(1, "a", "b"), keyOf("c", 64), inner(4, "d"))
	wantHalf(t, inner(1, keyOf("a", 64), "b", "c", "d"), inner(1, keyOf("a", 64)), "b", inner(3, "c", "d"))
	wantHalf(t, inner(1, "a", "b", "c", keyOf("d", 64)), inner(1, "a", "b"), "c", inner(4, keyOf("d", 64)))
}

// Half answers the first of places that are equally good.
func TestHalfOfEquallyGoodPlaces(t *testing.T) {
	c := func(key string, value int) api.Cell { return api.Cell{Key: key, Value: text(value)} }
	// at both places the greater half has the part of b
	wantHalf(t, leafOf(c("a", 3), c("b", 8), c("c", 3)), leafOf(c("a", 3)), "b", leafOf(c("b", 8), c("c", 3)))
	wantHalf(t, inner(1, "a", "b", "c", "d"), inner(1, "a"), "b", inner(3, "c", "d"))
	wantHalf(t, inner(1, "a", "bb", "cc", "d"), inner(1, "a"), "bb", inner(3, "cc", "d"))
}

// The bytes of how many items there are belong to a half: the items 126 on are 128, whose number has two
// bytes. But for that byte the place 126 would be as good as 127, and the first one.
func TestHalfCountsTheBytesOfTheCount(t *testing.T) {
	n := leaf()
	for _, k := range numbered(254) {
		n.Items = append(n.Items, api.Cell{Key: k})
	}
	part := len(handForm(leafOf(n.Items[:2]...))) - len(handForm(leafOf(n.Items[:1]...)))
	n.Items[0].Value = text(part) // so that 126 items are as long as the last 127
	wantHalf(t, n, leafOf(n.Items[:127]...), n.Items[127].Key, leafOf(n.Items[127:]...))

	m := inner(1, numbered(255)...)
	m.Items[0].Key += text(7)
	wantHalf(t, m, innerOf(m.Kids[:128], m.Items[:127]...), m.Items[127].Key, innerOf(m.Kids[128:], m.Items[128:]...))
	m = inner(1, numbered(255)...)
	m.Items[254].Key += text(8) // so that the places 127 and 128 are equally good
	wantHalf(t, m, innerOf(m.Kids[:128], m.Items[:127]...), m.Items[127].Key, innerOf(m.Kids[128:], m.Items[128:]...))
	for value := range 9 {
		n.Items[0].Value = text(value)
		wantBestHalf(t, n)
	}
}

// wantBestHalf holds Half against all places, of which each is parted and measured.
func wantBestHalf(t *testing.T, n api.Node) {
	t.Helper()
	var a, b api.Node
	key, least := "", math.MaxInt
	last := len(n.Items) - 1
	if !n.Leaf {
		last--
	}
	for i := 1; i <= last; i++ {
		x, y := api.Node{Leaf: n.Leaf, Items: n.Items[:i]}, api.Node{Leaf: n.Leaf, Items: n.Items[i:]}
		if !n.Leaf {
			x.Kids, y.Items, y.Kids = n.Kids[:i+1], n.Items[i+1:], n.Kids[i+1:]
		}
		if size := max(len(handForm(x)), len(handForm(y))); size < least {
			a, key, b, least = x, n.Items[i].Key, y, size
		}
	}
	wantHalf(t, n, a, key, b)
}

func TestHalfOfTooFew(t *testing.T) {
	for _, n := range []api.Node{leaf(), leaf("a"), inner(1, "a"), inner(1, "a", "b")} {
		a, key, b, e := cell.Half(n)
		if e != api.ErrNone || key != "" {
			t.Errorf("Half(%v): %q, %d", n, key, e)
		}
		wantNone(t, "Half", a)
		wantNone(t, "Half", b)
	}
}

func TestHalfOfIllFormed(t *testing.T) {
	for what, n := range illFormed() {
		a, key, b, e := cell.Half(n)
		if e != api.ErrArg || key != "" {
			t.Errorf("%s: Half: %q, %d", what, key, e)
		}
		wantNone(t, what, a)
		wantNone(t, what, b)
	}
}

func TestHalfOfVeryMany(t *testing.T) {
	keys := numbered(40000)
	wantHalf(t, leaf(keys...), leaf(keys[:20000]...), keys[20000], leaf(keys[20000:]...))
	wantHalf(t, inner(1, keys...), inner(1, keys[:19999]...), keys[19999], inner(20001, keys[20000:]...))
}

// P6.5

func TestJoin(t *testing.T) {
	for i, x := range []struct {
		a    api.Node
		key  string
		b    api.Node
		want api.Node
	}{
		{leaf("a"), "b", leaf("b", "c"), leaf("a", "b", "c")},
		{leaf("a"), "a\x00", leaf("b"), leaf("a", "b")},
		{leaf(), "", leaf(), leaf()},
		{leaf(), "", leaf("a"), leaf("a")},
		{leaf(), "a", leaf("a"), leaf("a")},
		{leaf("a"), "b", leaf(), leaf("a")},
		{leaf("a"), "b" + text(api.MaxKey), leaf("c"), leaf("a", "c")},
		{leaf(), text(999), leaf(), leaf()},
		{leafOf(api.Cell{Key: "a", Page: 3, Len: 9}), "b", leaf("b"), leafOf(api.Cell{Key: "a", Page: 3, Len: 9}, api.Cell{Key: "b", Value: "v"})},
		{inner(1, "a"), "b", inner(3, "c"), inner(1, "a", "b", "c")},
		{inner(1, "a"), text(api.MaxKey), inner(3, "l", "m"), inner(1, "a", text(api.MaxKey), "l", "m")},
		{inner(7, "a"), "b", inner(7, "c"), innerOf([]int{7, 8, 7, 8}, inner(1, "a", "b", "c").Items...)},
	} {
		if n, e := cell.Join(x.a, x.key, x.b); e != api.OK || !same(n, x.want) {
			t.Errorf("%d: %v, %d", i, n, e)
		}
	}
}

func wantJoinErr(t *testing.T, what string, a api.Node, key string, b api.Node, want api.Errno) {
	t.Helper()
	n, e := cell.Join(a, key, b)
	if e != want {
		t.Errorf("%s: Join: %d, want %d", what, e, want)
	}
	wantNone(t, what, n)
}

func TestJoinRefuses(t *testing.T) {
	for what, n := range illFormed() {
		wantJoinErr(t, what+" ahead of a leaf", n, "y", leaf("z"), api.ErrArg)
		wantJoinErr(t, what+" behind a leaf", leaf("0"), "1", n, api.ErrArg)
		wantJoinErr(t, what+" ahead of an inner node", n, "y", inner(1, "z"), api.ErrArg)
		wantJoinErr(t, what+" behind an inner node", inner(1, "0"), "1", n, api.ErrArg)
		wantJoinErr(t, what+" and itself", n, "y", n, api.ErrArg)
	}
	for _, x := range []struct {
		what string
		a    api.Node
		key  string
		b    api.Node
	}{
		{"leaf and inner node", leaf("a"), "b", inner(1, "c")},
		{"inner node and leaf", inner(1, "a"), "b", leaf("c")},
		{"empty leaf and inner node", leaf(), "b", inner(1, "c")},
		{"inner node and empty leaf", inner(1, "a"), "b", leaf()},
		{"leaves, key in a", leaf("a"), "a", leaf("b")},
		{"leaves, key below a's last", leaf("a", "c"), "b", leaf("d")},
		{"leaves, key below a's first", leaf("b"), "a", leaf("c")},
		{"leaves, empty key", leaf("b"), "", leaf("c")},
		{"leaves, empty key, empty b", leaf("b"), "", leaf()},
		{"leaves, key above b's first", leaf("a"), "c", leaf("b")},
		{"leaves, key within b", leaf("a"), "c", leaf("b", "d")},
		{"leaves, empty a, key above", leaf(), "c", leaf("b")},
		{"leaves turned round", leaf("c"), "b", leaf("a")},
		{"leaves alike", leaf("a"), "a", leaf("a")},
		{"inner, empty key", inner(1, "a"), "", inner(1, "b")},
		{"inner, key of 65 bytes", inner(1, "a"), text(api.MaxKey + 1), inner(1, "l")},
		{"inner, key in a", inner(1, "a"), "a", inner(1, "b")},
		{"inner, key below a's last", inner(1, "a", "c"), "b", inner(1, "d")},
		{"inner, key in b", inner(1, "a"), "b", inner(1, "b")},
		{"inner, key above b's first", inner(1, "a"), "c", inner(1, "b", "d")},
	} {
		wantJoinErr(t, x.what, x.a, x.key, x.b, api.ErrArg)
	}
}

func TestJoinJustFits(t *testing.T) {
	for size, nodes := range long() {
		if size > api.PageSize+1 {
			continue
		}
		for i, n := range nodes {
			a, key, b := partAt(n, 1)
			m, e := cell.Join(a, key, b)
			switch {
			case size > api.PageSize:
				wantJoinErr(t, "long "+strconv.Itoa(i), a, key, b, api.ErrLong)
			case e != api.OK || !same(m, n):
				t.Errorf("%d bytes: Join: %v, %d", size, m, e)
			}
		}
	}
}

// partAt parts a node where it is said.
func partAt(n api.Node, i int) (api.Node, string, api.Node) {
	if n.Leaf {
		return leafOf(n.Items[:i]...), n.Items[i].Key, leafOf(n.Items[i:]...)
	}
	return innerOf(n.Kids[:i+1], n.Items[:i]...), n.Items[i].Key, innerOf(n.Kids[i+1:], n.Items[i+1:]...)
}

func TestJoinOfLong(t *testing.T) {
	keys := numbered(5000)
	for what, x := range map[string]struct {
		a, b api.Node
		key  string
		want api.Errno
	}{
		"leaves":                      {leaf(keys[:2000]...), leaf(keys[2000:]...), keys[2000], api.ErrLong},
		"a long leaf and an empty":    {leaf(keys...), leaf(), "z", api.ErrLong},
		"inner nodes":                 {inner(1, keys[:2000]...), inner(1, keys[2001:]...), keys[2000], api.ErrLong},
		"leaves, a key too high":      {leaf(keys[:2000]...), leaf(keys[2000:]...), keys[2001], api.ErrArg},
		"inner nodes, a key too long": {inner(1, keys[:2000]...), inner(1, keys[2001:]...), keys[2000] + text(99), api.ErrArg},
		"a long leaf, an inner node":  {leaf(keys[:2000]...), inner(1, keys[2001:]...), keys[2000], api.ErrArg},
		"long ones, one ill-formed":   {leaf(keys[:2000]...), leaf(append(slices.Clone(keys[2000:]), "0")...), keys[2000], api.ErrArg},
	} {
		wantJoinErr(t, what, x.a, x.key, x.b, x.want)
	}
}
