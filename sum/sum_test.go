package sum_test

import (
	"bytes"
	"hash/crc32"
	"math"
	"math/rand"
	"slices"
	"strings"
	"testing"

	"brickyard/sum"
)

// wantRegister is the chapter's register behind the bits of b, one by one.
func wantRegister(register uint32, b []byte) uint32 {
	for i := range 8 * len(b) {
		t := register&1 != uint32(b[i/8])>>(i%8)&1
		register /= 2
		if t {
			register ^= 0xEDB88320
		}
	}
	return register
}

func wantSum(b []byte) uint32 { return ^wantRegister(math.MaxUint32, b) }

// bytesOfSum answers the four bytes whose sum is s: the register taken back by 32 bits.
func bytesOfSum(s uint32) []byte {
	register := ^s
	for range 32 {
		if register>>31 == 1 {
			register = (register^0xEDB88320)<<1 | 1
		} else {
			register <<= 1
		}
	}
	return lowestFirst(^register)
}

func lowestFirst(s uint32) []byte {
	return []byte{byte(s), byte(s >> 8), byte(s >> 16), byte(s >> 24)}
}

func randomBytes(r *rand.Rand, size int) []byte {
	b := make([]byte, size)
	r.Read(b)
	return b
}

// samples are lists of all short lengths, of a block's, and of some with one byte alone.
func samples() [][]byte {
	r := rand.New(rand.NewSource(1))
	all := [][]byte{nil, {}, []byte("a"), []byte("123456789"), make([]byte, 256), bytes.Repeat([]byte{0xff}, 256)}
	for size := 1; size < 40; size++ {
		all = append(all, randomBytes(r, size), make([]byte, size), bytes.Repeat([]byte{0xff}, size))
	}
	for x := range 256 {
		all = append(all, []byte{byte(x)})
	}
	for _, size := range []int{240, 251, 252, 253, 256, 4608, 70000} {
		all = append(all, randomBytes(r, size))
	}
	return all
}

func numbers() []uint32 {
	r := rand.New(rand.NewSource(2))
	all := []uint32{0, 1, 2, 15, 16, 255, 256, math.MaxInt32, 1 << 31, math.MaxUint32 - 1, math.MaxUint32, 0xEDB88320, 0xCBF43926}
	for range 50 {
		all = append(all, r.Uint32())
	}
	return all
}

// P2.1

func TestOf(t *testing.T) {
	for _, x := range []struct {
		b    string
		want uint32
	}{
		{"123456789", 0xCBF43926},
		{"", 0},
		{"a", 0xE8B7BE43},
		{"\x00", 0xD202EF8D},
		{"\x01", 0xA505DF1B},
		{"\x80", 0x3FBA6CAD},
		{"\x00\x00\x00\x00", 0x2144DF1C},
		{"\xff\xff\xff\xff", 0xFFFFFFFF},
		{"The quick brown fox jumps over the lazy dog", 0x414FA339},
	} {
		if got := sum.Of([]byte(x.b)); got != x.want {
			t.Errorf("%q: %08X, want %08X", x.b, got, x.want)
		}
	}
	if got := sum.Of(nil); got != 0 {
		t.Errorf("nil: %08X", got)
	}
}

func TestOfIsTheRegistersWay(t *testing.T) {
	for _, b := range samples() {
		if got := sum.Of(b); got != wantSum(b) || got != crc32.ChecksumIEEE(b) {
			t.Errorf("%d bytes: %08X, want %08X", len(b), got, wantSum(b))
		}
	}
}

func TestOfAllPairsOfBytes(t *testing.T) {
	for i := range 1 << 16 {
		b := []byte{byte(i), byte(i >> 8)}
		if got := sum.Of(b); got != wantSum(b) {
			t.Fatalf("%x: %08X, want %08X", b, got, wantSum(b))
		}
	}
}

// P2.2

func TestMore(t *testing.T) {
	if got := sum.More(sum.Of([]byte("1234")), []byte("56789")); got != 0xCBF43926 {
		t.Errorf("1234, 56789: %08X", got)
	}
	for _, b := range samples() {
		for _, n := range []int{0, 1, len(b) / 2, len(b) - 1, len(b)} {
			if n < 0 || n > len(b) {
				continue
			}
			if got := sum.More(wantSum(b[:n]), b[n:]); got != wantSum(b) {
				t.Errorf("%d bytes from %d on: %08X, want %08X", len(b), n, got, wantSum(b))
			}
		}
	}
}

func TestMoreOfNoughtIsOf(t *testing.T) {
	for _, b := range samples() {
		if got := sum.More(0, b); got != sum.Of(b) {
			t.Errorf("%d bytes: %08X, want %08X", len(b), got, sum.Of(b))
		}
	}
}

func TestMoreTakesEachNumberAsASum(t *testing.T) {
	for _, s := range numbers() {
		ahead := bytesOfSum(s)
		if wantSum(ahead) != s {
			t.Fatalf("%08X is not the sum of %x", s, ahead)
		}
		for _, b := range samples()[:40] {
			if got, want := sum.More(s, b), wantSum(slices.Concat(ahead, b)); got != want {
				t.Errorf("%08X and %x: %08X, want %08X", s, b, got, want)
			}
		}
		if sum.More(s, nil) != s || sum.More(s, []byte{}) != s {
			t.Errorf("%08X and no bytes: %08X", s, sum.More(s, nil))
		}
	}
}

// P2.3

func TestSeal(t *testing.T) {
	if got := sum.Seal([]byte("a")); !bytes.Equal(got, []byte{0x61, 0x43, 0xBE, 0xB7, 0xE8}) {
		t.Errorf("a: %X", got)
	}
	if got := sum.Seal(nil); !bytes.Equal(got, make([]byte, 4)) {
		t.Errorf("nil: %X", got)
	}
	for _, b := range samples() {
		if got, want := sum.Seal(b), slices.Concat(b, lowestFirst(wantSum(b))); !bytes.Equal(got, want) {
			t.Errorf("%d bytes: %X, want %X", len(b), got, want)
		}
	}
}

func TestOpen(t *testing.T) {
	for _, x := range []struct {
		b    string
		want string
		ok   bool
	}{
		{"a\x43\xBE\xB7\xE8", "a", true},
		{"b\x43\xBE\xB7\xE8", "", false},
		{"a\xE8\xB7\xBE\x43", "", false},
		{"a\x43\xBE\xB7", "", false},
		{"a\x43\xBE\xB7\xE8\x00", "", false},
		{"\x00a\x43\xBE\xB7\xE8", "", false},
		{"\x43\xBE\xB7\xE8", "", false},
		{"", "", false},
		{"\x00", "", false},
		{"\x00\x00", "", false},
		{"\x00\x00\x00", "", false},
		{"\x00\x00\x00\x00", "", true},
		{"\x01\x00\x00\x00", "", false},
		{"\x00\x00\x00\x01", "", false},
		{"\xff\xff\xff\xff", "", false},
		{"\xff\xff\xff\xff\xff\xff\xff\xff", "\xff\xff\xff\xff", true},
		{"\x00\x00\x00\x00\x00", "", false},
	} {
		got, ok := sum.Open([]byte(x.b))
		if string(got) != x.want || ok != x.ok || x.want == "" && got != nil {
			t.Errorf("%X: %X, %t, want %X, %t", x.b, got, ok, x.want, x.ok)
		}
	}
	if got, ok := sum.Open(nil); got != nil || ok {
		t.Errorf("nil: %X, %t", got, ok)
	}
}

func TestOpenAnswersWhatWasSealed(t *testing.T) {
	for _, b := range samples() {
		got, ok := sum.Open(sum.Seal(b))
		if !ok || !bytes.Equal(got, b) || len(b) == 0 && got != nil {
			t.Errorf("%d bytes: %d, %t", len(b), len(got), ok)
		}
	}
}

func TestOpenOfAnyBytes(t *testing.T) {
	r := rand.New(rand.NewSource(3))
	for size := range 40 {
		for range 200 {
			b := randomBytes(r, size)
			want := size >= 4 && bytes.Equal(lowestFirst(wantSum(b[:size-4])), b[size-4:])
			if got, ok := sum.Open(b); ok != want || !ok && got != nil {
				t.Errorf("%X: %X, %t", b, got, ok)
			}
		}
	}
}

func TestSealAnswersNewMemory(t *testing.T) {
	for _, b := range [][]byte{nil, []byte("a"), []byte("123456789")} {
		given := slices.Clone(b)
		first, second := sum.Seal(b), sum.Seal(b)
		want := slices.Clone(second)
		first = first[:cap(first)]
		for i := range first {
			first[i] ^= 0xff
		}
		if !bytes.Equal(b, given) || !bytes.Equal(second, want) || !bytes.Equal(sum.Seal(b), want) {
			t.Errorf("%q: Seal's answers share memory", given)
		}
	}
}

func TestOpenAnswersNewMemory(t *testing.T) {
	for _, text := range []string{"a", "123456789", strings.Repeat("x", 240)} {
		sealed := sum.Seal([]byte(text))
		given := slices.Clone(sealed)
		first, _ := sum.Open(sealed)
		second, _ := sum.Open(sealed)
		first = first[:cap(first)]
		for i := range first {
			first[i] ^= 0xff
		}
		if !bytes.Equal(sealed, given) || string(second) != text {
			t.Errorf("%q: Open's answers share memory", text)
		}
		clear(sealed)
		if string(second) != text {
			t.Errorf("%q: Open's answer is written into from outside", text)
		}
	}
}

func TestRoomBehindIsLeftAlone(t *testing.T) {
	room := []byte("123456789 and more")
	given := slices.Clone(room)
	want := sum.Seal([]byte("123456789"))
	if got := sum.Seal(room[:9]); !bytes.Equal(got, want) {
		t.Errorf("Seal: %X", got)
	}
	if sum.Of(room[:9]) != 0xCBF43926 || sum.More(sum.Of(room[:4]), room[4:9]) != 0xCBF43926 {
		t.Error("the room behind the end was summed")
	}
	if !bytes.Equal(room, given) {
		t.Errorf("%q was written into", room)
	}
	sealed := append(slices.Clone(want), "more"...)
	given = slices.Clone(sealed)
	if got, ok := sum.Open(sealed[:len(want)]); string(got) != "123456789" || !ok {
		t.Errorf("Open: %q, %t", got, ok)
	}
	if got, ok := sum.Open(sealed[:3]); got != nil || ok {
		t.Errorf("Open of three bytes: %q, %t", got, ok)
	}
	if !bytes.Equal(sealed, given) {
		t.Errorf("%X was written into", sealed)
	}
}

// P2.4

func TestMoreGoesPartByPart(t *testing.T) {
	r := rand.New(rand.NewSource(4))
	for _, s := range numbers() {
		for range 20 {
			a, b := randomBytes(r, r.Intn(20)), randomBytes(r, r.Intn(20))
			if got, want := sum.More(sum.More(s, a), b), sum.More(s, slices.Concat(a, b)); got != want {
				t.Errorf("%08X, %x, %x: %08X, want %08X", s, a, b, got, want)
			}
		}
	}
	whole := randomBytes(r, 600)
	s := uint32(0)
	for i := range whole {
		s = sum.More(s, whole[i:i+1])
	}
	if s != wantSum(whole) {
		t.Errorf("byte by byte: %08X, want %08X", s, wantSum(whole))
	}
}

// P2.5

func TestThreeListsAdded(t *testing.T) {
	r := rand.New(rand.NewSource(5))
	for size := range 300 {
		a, b, c := randomBytes(r, size), randomBytes(r, size), make([]byte, size)
		if size%2 == 0 {
			c = randomBytes(r, size)
		}
		all := make([]byte, size)
		for i := range all {
			all[i] = a[i] ^ b[i] ^ c[i]
		}
		if got, want := sum.Of(all), sum.Of(a)^sum.Of(b)^sum.Of(c); got != want {
			t.Errorf("%d bytes: %08X, want %08X", size, got, want)
		}
	}
}

// P2.6

// turn turns the bits over that pattern names, its lowest one being the bit at.
func turn(b []byte, at int, pattern uint64) {
	for ; pattern != 0; pattern >>= 1 {
		if pattern&1 == 1 {
			b[at/8] ^= 1 << (at % 8)
		}
		at++
	}
}

// spoil turns the bits of a pattern that has its lowest bit set and width bits, wherever it fits.
func spoil(t *testing.T, sealed []byte, pattern uint64, width int) {
	t.Helper()
	for at := range 8*len(sealed) - width + 1 {
		turn(sealed, at, pattern)
		if got, ok := sum.Open(sealed); ok || got != nil {
			t.Errorf("%d bytes, %X turned over from the bit %d on: %X, %t", len(sealed), pattern, at, got, ok)
		}
		turn(sealed, at, pattern)
	}
}

func TestOneBitTurned(t *testing.T) {
	for _, text := range []string{"", "a", "123456789", strings.Repeat("\x00", 240), strings.Repeat("brick", 100)} {
		spoil(t, sum.Seal([]byte(text)), 1, 1)
	}
}

func TestBitsTurnedWithinThirtyTwo(t *testing.T) {
	r := rand.New(rand.NewSource(6))
	for _, text := range []string{"", "a", "ab", "12345678901"} {
		sealed := sum.Seal([]byte(text))
		for width := 2; width <= 32; width++ {
			ends := uint64(1)<<(width-1) | 1
			all := uint64(1)<<width - 1
			spoil(t, sealed, ends, width)
			spoil(t, sealed, all, width)
			for range 20 {
				spoil(t, sealed, r.Uint64()&all|ends, width)
			}
		}
		if got, ok := sum.Open(sealed); !ok || string(got) != text {
			t.Errorf("%q: turned back: %q, %t", text, got, ok)
		}
	}
}

// TestBitsOfPTurned: the least that goes unseen is P itself, 33 bits wide, which no other width may bring about.
func TestBitsOfPTurned(t *testing.T) {
	sealed := sum.Seal([]byte("123456789"))
	const p = 0xEDB88320<<1 | 1
	for at := range 8*len(sealed) - 32 {
		turn(sealed, at, p)
		if _, ok := sum.Open(sealed); !ok {
			t.Errorf("P turned over from the bit %d on is seen", at)
		}
		turn(sealed, at, p)
	}
	spoil(t, sealed, p^1<<32, 32)
	spoil(t, sealed, p>>6, 27)
}
