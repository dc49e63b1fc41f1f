package wire_test

import (
	"bytes"
	"math"
	"math/big"
	"math/rand"
	"slices"
	"strings"
	"testing"

	"brickyard/api"
	"brickyard/wire"
)

const maxUint = math.MaxUint64

// edges are the numbers around which the form or the length of a number's bytes changes.
func edges() []uint64 {
	all := []uint64{0, 1, 2, 299, 300, 301, 1000, maxUint - 1, maxUint}
	for shift := 1; shift < 64; shift++ {
		n := uint64(1) << shift
		all = append(all, n-1, n, n+1)
	}
	slices.Sort(all)
	return slices.Compact(all)
}

func sampleTexts() []string {
	return []string{"", "a", "ab", "ba", "\x00", "\x80", "\xff\xff", "\x01a", strings.Repeat("x", 127), strings.Repeat("x", 128), strings.Repeat("y", 20000)}
}

func sampleLists() [][]string {
	return [][]string{nil, {""}, {"", ""}, {"a"}, {"a", ""}, {"", "a"}, {"ab"}, {"a", "b"}, {"\x01a"}, slices.Repeat([]string{""}, 127), slices.Repeat([]string{"z"}, 128), sampleTexts()}
}

// digits are a number's bytes as the chapter's words say them, by division.
func digits(n uint64) []byte {
	var out []byte
	for {
		digit := byte(n % 128)
		n /= 128
		if n == 0 {
			return append(out, digit)
		}
		out = append(out, 128+digit)
	}
}

// wantUint is what Uint(most) is to answer of b, and how far it goes.
func wantUint(b []byte, most uint64) (n uint64, went int, e api.Errno) {
	last := slices.IndexFunc(b, func(x byte) bool { return x < 128 })
	if last < 0 || last > 0 && b[last] == 0 {
		return 0, 0, api.ErrBytes
	}
	sum := new(big.Int)
	for i := last; i >= 0; i-- {
		sum.Mul(sum, big.NewInt(128))
		sum.Add(sum, big.NewInt(int64(b[i]%128)))
	}
	switch {
	case !sum.IsUint64():
		return 0, 0, api.ErrBytes
	case sum.Uint64() > most:
		return 0, 0, api.ErrLong
	}
	return sum.Uint64(), last + 1, api.OK
}

// wantCount is what Text and List ask first of b.
func wantCount(b []byte, most int) (n int, went int, e api.Errno) {
	u, went, e := wantUint(b, maxUint)
	switch {
	case e != api.OK:
		return 0, 0, e
	case most < 0 || u > uint64(most):
		return 0, 0, api.ErrLong
	case u > uint64(len(b)-went):
		return 0, 0, api.ErrBytes
	}
	return int(u), went, api.OK
}

func wantText(b []byte, most int) (s string, went int, e api.Errno) {
	n, went, e := wantCount(b, most)
	if e != api.OK {
		return "", 0, e
	}
	return string(b[went : went+n]), went + n, api.OK
}

func wantList(b []byte, most, longest int) (l []string, went int, e api.Errno) {
	n, went, e := wantCount(b, most)
	if e != api.OK {
		return nil, 0, e
	}
	for range n {
		s, more, e := wantText(b[went:], longest)
		if e != api.OK {
			return nil, 0, e
		}
		l, went = append(l, s), went+more
	}
	return l, went, api.OK
}

// at answers a cursor that has gone over ahead already, with b behind its place.
func at(t *testing.T, b []byte) (c *wire.Cursor, place int) {
	t.Helper()
	ahead := wire.PutText("ahead")
	c = wire.New(slices.Concat(ahead, b))
	if s, e := c.Text(9); s != "ahead" || e != api.OK {
		t.Fatalf("ahead: %q, %d", s, e)
	}
	return c, len(ahead)
}

func checkPlace(t *testing.T, c *wire.Cursor, place, size int) {
	t.Helper()
	if c.At() != place || c.Left() != size-place {
		t.Errorf("at %d with %d left, want %d with %d left", c.At(), c.Left(), place, size-place)
	}
}

// checkReading holds all three reading calls against the definition.
func checkReading(t *testing.T, b []byte, mostNumber uint64, most, longest int) {
	t.Helper()
	c, place := at(t, b)
	n, e := c.Uint(mostNumber)
	wantN, went, wantE := wantUint(b, mostNumber)
	if n != wantN || e != wantE {
		t.Errorf("Uint(%d) of %x: %d, %d, want %d, %d", mostNumber, b, n, e, wantN, wantE)
	}
	checkPlace(t, c, place+went, place+len(b))

	c, place = at(t, b)
	s, e := c.Text(most)
	wantS, went, wantE := wantText(b, most)
	if s != wantS || e != wantE {
		t.Errorf("Text(%d) of %x: %q, %d, want %q, %d", most, b, s, e, wantS, wantE)
	}
	checkPlace(t, c, place+went, place+len(b))

	c, place = at(t, b)
	l, e := c.List(most, longest)
	wantL, went, wantE := wantList(b, most, longest)
	if !slices.Equal(l, wantL) || e != wantE || (l == nil) != (wantL == nil) {
		t.Errorf("List(%d, %d) of %x: %q, %d, want %q, %d", most, longest, b, l, e, wantL, wantE)
	}
	checkPlace(t, c, place+went, place+len(b))
}

// P1.1

func TestPutUint(t *testing.T) {
	for _, x := range []struct {
		n    uint64
		want []byte
	}{
		{0, []byte{0}},
		{127, []byte{0x7f}},
		{128, []byte{0x80, 0x01}},
		{300, []byte{0xac, 0x02}},
		{1 << 63, []byte{0x80, 0x80, 0x80, 0x80, 0x80, 0x80, 0x80, 0x80, 0x80, 0x01}},
		{maxUint, []byte{0xff, 0xff, 0xff, 0xff, 0xff, 0xff, 0xff, 0xff, 0xff, 0x01}},
	} {
		if b := wire.PutUint(x.n); !bytes.Equal(b, x.want) {
			t.Errorf("%d: %x, want %x", x.n, b, x.want)
		}
	}
	for _, n := range edges() {
		if b := wire.PutUint(n); !bytes.Equal(b, digits(n)) {
			t.Errorf("%d: %x, want %x", n, b, digits(n))
		}
	}
}

func TestPutText(t *testing.T) {
	for _, x := range []struct {
		s    string
		want []byte
	}{
		{"ab", []byte{2, 'a', 'b'}},
		{"", []byte{0}},
		{"\x00\xff\x80", []byte{3, 0, 0xff, 0x80}},
		{strings.Repeat("x", 128), append([]byte{0x80, 1}, strings.Repeat("x", 128)...)},
	} {
		if b := wire.PutText(x.s); !bytes.Equal(b, x.want) {
			t.Errorf("%q: %x, want %x", x.s, b, x.want)
		}
	}
	for _, s := range sampleTexts() {
		if b := wire.PutText(s); !bytes.Equal(b, append(digits(uint64(len(s))), s...)) {
			t.Errorf("%q: %x", s, b)
		}
	}
}

func TestPutList(t *testing.T) {
	if b := wire.PutList("a", ""); !bytes.Equal(b, []byte{2, 1, 'a', 0}) {
		t.Errorf("a, none: %x", b)
	}
	if b := wire.PutList(); !bytes.Equal(b, []byte{0}) {
		t.Errorf("no text: %x", b)
	}
	for _, l := range sampleLists() {
		given := slices.Clone(l)
		want := digits(uint64(len(l)))
		for _, s := range l {
			want = append(append(want, digits(uint64(len(s)))...), s...)
		}
		if b := wire.PutList(l...); !bytes.Equal(b, want) || !slices.Equal(l, given) {
			t.Errorf("%q: %x, want %x", l, b, want)
		}
	}
}

func TestPutAnswersNewMemory(t *testing.T) {
	for name, put := range map[string]func() []byte{
		"PutUint": func() []byte { return wire.PutUint(300) },
		"PutText": func() []byte { return wire.PutText("ab") },
		"PutList": func() []byte { return wire.PutList("a", "b") },
		"nought":  func() []byte { return wire.PutUint(0) },
	} {
		first, second := put(), put()
		want := slices.Clone(second)
		clear(first[:cap(first)])
		if !bytes.Equal(second, want) || !bytes.Equal(put(), want) {
			t.Errorf("%s: two answers share memory", name)
		}
	}
}

// P1.2

func TestNewAtLeft(t *testing.T) {
	for _, size := range []int{0, 1, 300} {
		c := wire.New(make([]byte, size))
		checkPlace(t, c, 0, size)
	}
	if c := wire.New(nil); c == nil || c.At() != 0 || c.Left() != 0 {
		t.Error("New of no bytes")
	}
	var none *wire.Cursor
	if none.At() != 0 || none.Left() != 0 {
		t.Error("a nil cursor has a place")
	}
}

func TestPlaceGoesOn(t *testing.T) {
	c := wire.New([]byte{0xac, 0x02, 0xff})
	if n, e := c.Uint(1000); n != 300 || e != api.OK {
		t.Errorf("first: %d, %d", n, e)
	}
	checkPlace(t, c, 2, 3)
	if n, e := c.Uint(1000); n != 0 || e != api.ErrBytes {
		t.Errorf("second: %d, %d", n, e)
	}
	checkPlace(t, c, 2, 3)
}

func TestNewKeepsNothing(t *testing.T) {
	b := slices.Concat(wire.PutUint(300), wire.PutText("ab"), wire.PutList("c", "d"))
	given := slices.Clone(b)
	c := wire.New(b)
	if n, e := c.Uint(300); n != 300 || e != api.OK {
		t.Errorf("Uint: %d, %d", n, e)
	}
	if !bytes.Equal(b, given) {
		t.Error("the bytes that were handed in have changed")
	}
	clear(b)
	if s, e := c.Text(2); s != "ab" || e != api.OK {
		t.Errorf("Text: %q, %d", s, e)
	}
	if l, e := c.List(2, 1); !slices.Equal(l, []string{"c", "d"}) || e != api.OK {
		t.Errorf("List: %q, %d", l, e)
	}
	checkPlace(t, c, len(b), len(b))
}

func TestNewLeavesRoomBehindAlone(t *testing.T) {
	room := []byte{1, 'a', 1, 'b'}
	c := wire.New(room[:2])
	if s, e := c.Text(9); s != "a" || e != api.OK {
		t.Errorf("first: %q, %d", s, e)
	}
	if s, e := c.Text(9); s != "" || e != api.ErrBytes {
		t.Errorf("behind the end: %q, %d", s, e)
	}
	if !bytes.Equal(room, []byte{1, 'a', 1, 'b'}) {
		t.Errorf("room: %x", room)
	}
}

// P1.3

func TestUint(t *testing.T) {
	nines := bytes.Repeat([]byte{0xff}, 9)
	for _, x := range []struct {
		b    []byte
		most uint64
		n    uint64
		e    api.Errno
	}{
		{[]byte{0xac, 0x02, 0xff}, 1000, 300, api.OK},
		{[]byte{0xac, 0x02}, 300, 300, api.OK},
		{[]byte{0xac, 0x02}, 299, 0, api.ErrLong},
		{[]byte{0}, 0, 0, api.OK},
		{[]byte{1}, 0, 0, api.ErrLong},
		{[]byte{0x80, 0}, 1000, 0, api.ErrBytes},
		{[]byte{0x81, 0x80, 0}, 1000, 0, api.ErrBytes},
		{[]byte{0x80}, 1000, 0, api.ErrBytes},
		{[]byte{0xff, 0xff}, 0, 0, api.ErrBytes},
		{nil, 1000, 0, api.ErrBytes},
		{slices.Concat(nines, []byte{0x01}), maxUint, maxUint, api.OK},
		{slices.Concat(nines, []byte{0x01}), maxUint - 1, 0, api.ErrLong},
		{slices.Concat(nines, []byte{0x00}), maxUint, 0, api.ErrBytes},
		{slices.Concat(nines, []byte{0x02}), 1000, 0, api.ErrBytes},
		{slices.Concat(nines, []byte{0x02}), maxUint, 0, api.ErrBytes},
		{slices.Concat(nines, []byte{0x7f}), maxUint, 0, api.ErrBytes},
		{slices.Concat(nines, []byte{0x80, 0x01}), maxUint, 0, api.ErrBytes},
		{slices.Concat(nines, []byte{0x81, 0x00}), maxUint, 0, api.ErrBytes},
		{slices.Concat(nines, nines, nines, []byte{0x01}), maxUint, 0, api.ErrBytes},
	} {
		c := wire.New(x.b)
		n, e := c.Uint(x.most)
		if n != x.n || e != x.e || e != api.OK && c.At() != 0 {
			t.Errorf("Uint(%d) of %x: %d, %d, at %d, want %d, %d", x.most, x.b, n, e, c.At(), x.n, x.e)
		}
	}
}

func TestText(t *testing.T) {
	huge := wire.PutUint(maxUint)
	beyond := slices.Concat(bytes.Repeat([]byte{0xff}, 9), []byte{0x02})
	for _, x := range []struct {
		b    []byte
		most int
		s    string
		e    api.Errno
	}{
		{[]byte{2, 'a'}, 9, "", api.ErrBytes},
		{[]byte{2, 'a'}, 1, "", api.ErrLong},
		{[]byte{2, 'a', 'b', 'c'}, 9, "ab", api.OK},
		{[]byte{2, 'a', 'b'}, 2, "ab", api.OK},
		{[]byte{2, 0x00, 0xff}, math.MaxInt, "\x00\xff", api.OK},
		{[]byte{0}, 0, "", api.OK},
		{[]byte{0}, -1, "", api.ErrLong},
		{[]byte{1, 'a'}, math.MinInt, "", api.ErrLong},
		{nil, -1, "", api.ErrBytes},
		{nil, 9, "", api.ErrBytes},
		{[]byte{0x80}, -1, "", api.ErrBytes},
		{[]byte{0x81, 0, 'a'}, 9, "", api.ErrBytes},
		{huge, math.MaxInt, "", api.ErrLong},
		{wire.PutUint(math.MaxInt), math.MaxInt, "", api.ErrBytes},
		{wire.PutUint(math.MaxInt + 1), math.MaxInt, "", api.ErrLong},
		{beyond, 9, "", api.ErrBytes},
		{beyond, -1, "", api.ErrBytes},
	} {
		c := wire.New(x.b)
		s, e := c.Text(x.most)
		if s != x.s || e != x.e || e != api.OK && c.At() != 0 {
			t.Errorf("Text(%d) of %x: %q, %d, at %d, want %q, %d", x.most, x.b, s, e, c.At(), x.s, x.e)
		}
	}
}

func TestList(t *testing.T) {
	beyond := slices.Concat(bytes.Repeat([]byte{0xff}, 9), []byte{0x02})
	pair := []byte{2, 1, 'a', 0}
	for _, x := range []struct {
		b             []byte
		most, longest int
		l             []string
		e             api.Errno
	}{
		{[]byte{3, 0, 0}, 9, 9, nil, api.ErrBytes},
		{pair, 9, 9, []string{"a", ""}, api.OK},
		{pair, 2, 1, []string{"a", ""}, api.OK},
		{pair, 1, 9, nil, api.ErrLong},
		{pair, 9, 0, nil, api.ErrLong},
		{pair, 9, -1, nil, api.ErrLong},
		{pair, -1, 9, nil, api.ErrLong},
		{pair, math.MaxInt, math.MaxInt, []string{"a", ""}, api.OK},
		{[]byte{0}, 0, -1, nil, api.OK},
		{[]byte{0}, 0, math.MinInt, nil, api.OK},
		{[]byte{0}, -1, 9, nil, api.ErrLong},
		{nil, -1, 9, nil, api.ErrBytes},
		{[]byte{0x80}, 9, 9, nil, api.ErrBytes},
		{[]byte{0x80, 0}, 9, 9, nil, api.ErrBytes},
		{[]byte{2, 1, 'a', 2, 'b'}, 9, 9, nil, api.ErrBytes},
		{[]byte{2, 1, 'a'}, 9, 9, nil, api.ErrBytes},
		{[]byte{2, 0x80, 0, 0}, 9, 9, nil, api.ErrBytes},
		// How many there are is asked ahead of how long each one is.
		{[]byte{3, 9, 9}, 9, 0, nil, api.ErrBytes},
		{[]byte{3, 9, 9}, 2, 0, nil, api.ErrLong},
		// Of two texts that are wrong the first one is told.
		{[]byte{2, 3, 0x80}, 9, 2, nil, api.ErrLong},
		{[]byte{3, 0, 0x80, 0, 3}, 9, 2, nil, api.ErrBytes},
		{wire.PutUint(math.MaxInt), math.MaxInt, 9, nil, api.ErrBytes},
		{wire.PutUint(maxUint), math.MaxInt, 9, nil, api.ErrLong},
		{beyond, 9, 9, nil, api.ErrBytes},
	} {
		c := wire.New(x.b)
		l, e := c.List(x.most, x.longest)
		if !slices.Equal(l, x.l) || e != x.e || e != api.OK && c.At() != 0 {
			t.Errorf("List(%d, %d) of %x: %q, %d, at %d, want %q, %d", x.most, x.longest, x.b, l, e, c.At(), x.l, x.e)
		}
		if len(x.l) == 0 && l != nil {
			t.Errorf("List(%d, %d) of %x: empty, want nil", x.most, x.longest, x.b)
		}
	}
}

func TestListsShareNoMemory(t *testing.T) {
	b := slices.Concat(wire.PutList("a", "b", "c"), wire.PutList("d", "e", "f"))
	c := wire.New(b)
	first, _ := c.List(9, 9)
	second, _ := c.List(9, 9)
	clear(first[:cap(first)])
	if !slices.Equal(second, []string{"d", "e", "f"}) {
		t.Errorf("second: %q", second)
	}
}

func TestNilCursor(t *testing.T) {
	var none *wire.Cursor
	for _, most := range []int{math.MinInt, -1, 0, 9, math.MaxInt} {
		if n, e := none.Uint(uint64(most)); n != 0 || e != api.ErrNil {
			t.Errorf("Uint: %d, %d", n, e)
		}
		if s, e := none.Text(most); s != "" || e != api.ErrNil {
			t.Errorf("Text: %q, %d", s, e)
		}
		if l, e := none.List(most, most); l != nil || e != api.ErrNil {
			t.Errorf("List: %q, %d", l, e)
		}
	}
}

// TestReadingShortBytes goes through all rows of up to five bytes in which the calls' cases differ.
func TestReadingShortBytes(t *testing.T) {
	letters := []byte{0, 1, 2, 3, 0x80, 0x81, 0xff}
	var rows func(b []byte)
	rows = func(b []byte) {
		for _, most := range []int{-1, 1, 300} {
			checkReading(t, b, uint64(most), most, 1)
		}
		if len(b) < 5 && !t.Failed() {
			for _, x := range letters {
				rows(append(slices.Clone(b), x))
			}
		}
	}
	rows(nil)
}

// TestReadingAnyBytes takes right bytes and damages some of them.
func TestReadingAnyBytes(t *testing.T) {
	r := rand.New(rand.NewSource(1))
	mosts := []int{math.MinInt, -1, 0, 1, 2, 127, 128, 300, math.MaxInt}
	pick := func() int { return mosts[r.Intn(len(mosts))] }
	lists := sampleLists()
	for range 20000 {
		b := wire.PutUint(r.Uint64() >> r.Intn(64))
		if r.Intn(2) == 0 {
			b = wire.PutList(lists[r.Intn(len(lists)-1)]...)
		}
		for range r.Intn(3) {
			b[r.Intn(len(b))] = byte(r.Intn(256))
		}
		b = b[:r.Intn(len(b)+1)]
		checkReading(t, b, r.Uint64()>>r.Intn(64), pick(), pick())
		if t.Failed() {
			return
		}
	}
}

// P1.4

func TestPutIsReadWhateverStandsBehind(t *testing.T) {
	for _, behind := range [][]byte{nil, {0}, {0x80}, {0xff, 0xff}, {1, 'a'}} {
		for _, n := range edges() {
			b := slices.Concat(wire.PutUint(n), behind)
			c := wire.New(b)
			if got, e := c.Uint(n); got != n || e != api.OK {
				t.Errorf("%d: %d, %d", n, got, e)
			}
			checkPlace(t, c, len(b)-len(behind), len(b))
		}
		for _, s := range sampleTexts() {
			b := slices.Concat(wire.PutText(s), behind)
			c := wire.New(b)
			if got, e := c.Text(len(s)); got != s || e != api.OK {
				t.Errorf("%q: %q, %d", s, got, e)
			}
			checkPlace(t, c, len(b)-len(behind), len(b))
		}
		for _, l := range sampleLists() {
			b := slices.Concat(wire.PutList(l...), behind)
			c := wire.New(b)
			if got, e := c.List(len(l), 20000); !slices.Equal(got, l) || e != api.OK {
				t.Errorf("%q: %q, %d", l, got, e)
			}
			checkPlace(t, c, len(b)-len(behind), len(b))
		}
	}
}

func TestReadIsPutAgain(t *testing.T) {
	r := rand.New(rand.NewSource(2))
	for range 50000 {
		b := make([]byte, r.Intn(14))
		for i := range b {
			b[i] = []byte{0, 1, 2, 3, 0x7f, 0x80, 0xff, byte(r.Intn(256))}[r.Intn(8)]
		}
		c := wire.New(b)
		if n, e := c.Uint(maxUint); e == api.OK && !bytes.Equal(wire.PutUint(n), b[:c.At()]) {
			t.Errorf("number of %x: %x", b, wire.PutUint(n))
		}
		c = wire.New(b)
		if s, e := c.Text(99); e == api.OK && !bytes.Equal(wire.PutText(s), b[:c.At()]) {
			t.Errorf("text of %x: %x", b, wire.PutText(s))
		}
		c = wire.New(b)
		if l, e := c.List(99, 99); e == api.OK && !bytes.Equal(wire.PutList(l...), b[:c.At()]) {
			t.Errorf("list of %x: %x", b, wire.PutList(l...))
		}
	}
}

// P1.5

func TestNoBytesBeginWithAnothers(t *testing.T) {
	var numbers, texts, lists [][]byte
	for _, n := range edges() {
		numbers = append(numbers, wire.PutUint(n))
	}
	for _, s := range sampleTexts() {
		texts = append(texts, wire.PutText(s))
	}
	for _, l := range sampleLists() {
		lists = append(lists, wire.PutList(l...))
	}
	for name, all := range map[string][][]byte{"numbers": numbers, "texts": texts, "lists": lists} {
		for i, a := range all {
			for j, b := range all {
				if i != j && bytes.HasPrefix(a, b) {
					t.Errorf("%s: the bytes of %d begin with those of %d", name, i, j)
				}
			}
		}
	}
}

// P1.6

func TestNumbersLengths(t *testing.T) {
	longest := 1
	for _, n := range edges() {
		size := len(wire.PutUint(n))
		if size < longest || size > 10 {
			t.Errorf("%d has %d bytes, a lesser number %d", n, size, longest)
		}
		longest = size
	}
	if longest != 10 {
		t.Errorf("the greatest number has %d bytes", longest)
	}
}
