package wal_test

import (
	"bytes"
	"math"
	"slices"
	"testing"

	"brickyard/api"
	"brickyard/disk"
	"brickyard/wal"
)

// kept is how many blocks of a device are no pages: the heads and the log.
const kept = 2 + api.LogBlocks

func of(x byte) []byte { return bytes.Repeat([]byte{x}, api.PageSize) }

func image(page int, x byte) api.Image { return api.Image{Page: page, Bytes: of(x)} }

// row is an image of x for each of n pages, from the first one on.
func row(first, n int, x byte) []api.Image {
	var l []api.Image
	for i := range n {
		l = append(l, image(first+i, x))
	}
	return l
}

func device(t *testing.T, blocks int) *disk.Disk {
	t.Helper()
	d, e := disk.New(blocks)
	if e != api.OK {
		t.Fatalf("New(%d): %d", blocks, e)
	}
	return d
}

func formatted(t *testing.T, blocks int) *disk.Disk {
	t.Helper()
	d := device(t, blocks)
	if e := wal.Format(d); e != api.OK {
		t.Fatalf("Format: %d", e)
	}
	return d
}

func open(t *testing.T, d *disk.Disk) *wal.Log {
	t.Helper()
	l, e := wal.Open(d)
	if l == nil || e != api.OK {
		t.Fatalf("Open: %v, %d", l, e)
	}
	wantUsed(t, l, 0)
	return l
}

func fresh(t *testing.T, blocks int) (*disk.Disk, *wal.Log) {
	t.Helper()
	d := formatted(t, blocks)
	return d, open(t, d)
}

func commit(t *testing.T, l *wal.Log, images ...api.Image) {
	t.Helper()
	if e := l.Commit(images...); e != api.OK {
		t.Fatalf("Commit of %d images: %d", len(images), e)
	}
}

func checkpoint(t *testing.T, l *wal.Log) {
	t.Helper()
	if e := l.Checkpoint(); e != api.OK {
		t.Fatalf("Checkpoint: %d", e)
	}
}

func crash(t *testing.T, d *disk.Disk) {
	t.Helper()
	if e := d.Crash(nil, 0); e != api.OK {
		t.Fatalf("Crash: %d", e)
	}
}

func wantErr(t *testing.T, call string, got, want api.Errno) {
	t.Helper()
	if got != want {
		t.Errorf("%s: %d, want %d", call, got, want)
	}
}

func wantUsed(t *testing.T, l *wal.Log, want int) {
	t.Helper()
	if got := l.Used(); got != want {
		t.Errorf("Used: %d, want %d", got, want)
	}
}

func wantRead(t *testing.T, l *wal.Log, page int, want []byte) {
	t.Helper()
	if got, e := l.Read(page); e != api.OK || !bytes.Equal(got, want) {
		t.Errorf("Read(%d): %x, %d, want %x", page, got, e, want)
	}
}

// says is a byte for each page, which is all that the page has.
func says(t *testing.T, l *wal.Log) string {
	t.Helper()
	var s []byte
	for i := range l.Pages() {
		b, e := l.Read(i)
		if e != api.OK || len(b) != api.PageSize || !bytes.Equal(b, of(b[0])) {
			t.Fatalf("Read(%d): %x, %d", i, b, e)
		}
		s = append(s, b[0]+'0')
	}
	return string(s)
}

func wantSays(t *testing.T, l *wal.Log, want string) {
	t.Helper()
	if got := says(t, l); got != want {
		t.Errorf("pages %s, want %s", got, want)
	}
}

const noughts = "00000000000000" // of a device of 80 blocks

// P4.1

func TestFormat(t *testing.T) {
	wantErr(t, "Format of nil", wal.Format(nil), api.ErrNil)
	for _, blocks := range []int{api.MinBlocks, 81, 200, api.MaxBlocks} {
		d := formatted(t, blocks)
		crash(t, d)
		l := open(t, d)
		for i := range blocks - kept {
			wantRead(t, l, i, of(0))
		}
	}
}

func TestFormatOfWhatWasWritten(t *testing.T) {
	d := device(t, 80)
	for i := range d.Size() {
		d.Write(i, bytes.Repeat([]byte{byte(i + 1)}, api.BlockSize))
	}
	d.Flush()
	wantErr(t, "Format", wal.Format(d), api.OK)
	crash(t, d)
	wantSays(t, open(t, d), noughts)
}

func TestFormatOfWhatWasUsed(t *testing.T) {
	for commits := range 40 {
		d, l := fresh(t, 80)
		for i := range commits {
			commit(t, l, image(i%14, 1), image((i+1)%14, 2))
		}
		wantErr(t, "Format", wal.Format(d), api.OK)
		crash(t, d)
		l = open(t, d)
		wantSays(t, l, noughts)
		commit(t, l, image(9, 3))
		crash(t, d)
		wantSays(t, open(t, d), "00000000030000")
	}
}

func TestFormatIsCutAndCalledAgain(t *testing.T) {
	used := formatted(t, 80)
	l := open(t, used)
	commit(t, l, row(0, 14, 1)...)
	commit(t, l, row(3, 5, 2)...)
	for _, base := range []*disk.Disk{device(t, 80), used} {
		for cut := 0; ; cut++ {
			d := base.Copy()
			d.Cut(cut)
			e := wal.Format(d)
			if e == api.OK {
				break
			}
			wantErr(t, "Format without power", e, api.ErrPower)
			for _, keep := range [][]bool{nil, slices.Repeat([]bool{true}, 80), slices.Repeat([]bool{true, false, false}, 27)} {
				c := d.Copy()
				c.Crash(keep, cut*5)
				wantErr(t, "Format again", wal.Format(c), api.OK)
				crash(t, c)
				wantSays(t, open(t, c), noughts)
			}
		}
	}
}

func TestFormatMeetsFaults(t *testing.T) {
	for _, fault := range []api.Errno{api.ErrFull, api.ErrIO} {
		for at := 0; ; at++ {
			d := device(t, 80)
			d.Fail(at, fault)
			e := wal.Format(d)
			if d.Ops() <= at {
				wantErr(t, "Format behind which a fault lies", e, api.OK)
				break
			}
			wantErr(t, "Format", e, fault)
			wantErr(t, "Format again", wal.Format(d), api.OK)
			crash(t, d)
			wantSays(t, open(t, d), noughts)
		}
	}
}

// P4.2

func TestOpenOfNone(t *testing.T) {
	if l, e := wal.Open(nil); l != nil || e != api.ErrNil {
		t.Errorf("Open(nil): %v, %d", l, e)
	}
	for _, blocks := range []int{api.MinBlocks, 81, api.MaxBlocks} {
		d := device(t, blocks)
		for range 2 {
			if l, e := wal.Open(d); l != nil || e != api.ErrBlank {
				t.Errorf("Open of a new device: %v, %d", l, e)
			}
			crash(t, d)
		}
	}
	d := device(t, 80)
	d.Fail(0, api.ErrFull)
	if l, e := wal.Open(d); l != nil || e != api.ErrFull {
		t.Errorf("Open of a new device, by a fault: %v, %d", l, e)
	}
	d.Cut(0)
	if l, e := wal.Open(d); l != nil || e != api.ErrPower {
		t.Errorf("Open of a new device without power: %v, %d", l, e)
	}
}

// Nothing is promised of what these answer, but that they end.
func TestOpenOfWhatWasNotFormatted(t *testing.T) {
	for x := range 256 {
		d := device(t, 80)
		for i := range d.Size() {
			d.Write(i, bytes.Repeat([]byte{byte(x)}, api.BlockSize))
		}
		if l, e := wal.Open(d); e != api.OK && l != nil {
			t.Errorf("Open of %x: %v beside %d", x, l, e)
		}
		d, l := fresh(t, 80)
		commit(t, l, image(0, 1))
		b, _ := d.Read(2)
		for i := 2; i < kept; i++ {
			b[x] ^= byte(i)
			d.Write(i, b)
		}
		d.Flush()
		wal.Open(d)
	}
	base, l := fresh(t, 80)
	commit(t, l, image(0, 255), image(1, 255), image(2, 255))
	for from := range kept {
		all := base.Copy()
		for to := range kept {
			one := base.Copy()
			b, _ := one.Read(from)
			one.Write(to, b)
			one.Flush()
			wal.Open(one)
			if to >= 2 {
				all.Write(to, b)
			}
		}
		all.Flush()
		wal.Open(all)
	}
	zero := &disk.Disk{}
	if l, e := wal.Open(zero); l != nil || e == api.OK || wal.Format(zero) == api.OK {
		t.Errorf("Open of a device without blocks: %v, %d", l, e)
	}
}

func TestOpenFindsWhatWasCommitted(t *testing.T) {
	d, l := fresh(t, 80)
	want := []byte(noughts)
	for i := range 200 {
		x := byte(i%9 + 1)
		commit(t, l, row(i%10, 1+i%5, x)...)
		for k := range 1 + i%5 {
			want[i%10+k] = '0' + x
		}
		if i%7 == 0 {
			checkpoint(t, l)
		}
		if i%3 == 0 {
			crash(t, d)
		}
		if i%3 < 2 {
			l = open(t, d)
		}
		wantSays(t, l, string(want))
		c := d.Copy()
		crash(t, c)
		wantSays(t, open(t, c), string(want))
	}
}

// P4.3

func TestPages(t *testing.T) {
	for _, blocks := range []int{api.MinBlocks, 81, 100, api.MaxBlocks} {
		d, l := fresh(t, blocks)
		if l.Pages() != blocks-kept {
			t.Errorf("Pages of %d blocks: %d", blocks, l.Pages())
		}
		d.Cut(0)
		if l.Pages() != blocks-kept {
			t.Errorf("Pages without power: %d", l.Pages())
		}
	}
}

func TestRead(t *testing.T) {
	for _, blocks := range []int{api.MinBlocks, api.MaxBlocks} {
		d, l := fresh(t, blocks)
		last := blocks - kept - 1
		for _, page := range []int{math.MinInt, -kept, -1, last + 1, blocks, 1 << 31, math.MaxInt} {
			if b, e := l.Read(page); len(b) != 0 || e != api.ErrRange {
				t.Errorf("Read(%d): %x, %d", page, b, e)
			}
		}
		wantRead(t, l, 0, of(0))
		commit(t, l, image(0, 1), image(last, 2))
		for range 2 {
			wantRead(t, l, 0, of(1))
			wantRead(t, l, 1, of(0))
			wantRead(t, l, last-1, of(0))
			wantRead(t, l, last, of(2))
			checkpoint(t, l)
		}
		d.Cut(0)
		if b, e := l.Read(0); len(b) != 0 || e != api.ErrPower {
			t.Errorf("Read without power: %x, %d", b, e)
		}
		if b, e := l.Read(-1); len(b) != 0 || e != api.ErrRange {
			t.Errorf("Read(-1) without power: %x, %d", b, e)
		}
	}
}

// Each byte of a page is kept where it stands, whichever it is.
func TestReadByteByByte(t *testing.T) {
	d, l := fresh(t, 80)
	var want [14][]byte
	var images []api.Image
	for i := range want {
		want[i] = make([]byte, api.PageSize)
		for k := range want[i] {
			want[i][k] = byte(k*7 + i*31)
		}
		images = append(images, api.Image{Page: 13 - i, Bytes: want[i]})
	}
	commit(t, l, images...)
	for range 3 {
		for i := range want {
			wantRead(t, l, 13-i, want[i])
		}
		crash(t, d)
		l = open(t, d)
	}
}

// P4.4

func TestCommit(t *testing.T) {
	d, l := fresh(t, 80)
	commit(t, l, image(3, 1))
	wantSays(t, l, "00010000000000")
	commit(t, l, image(13, 2), image(0, 4), image(3, 3))
	wantSays(t, l, "40030000000002")
	commit(t, l, image(3, 0))
	wantSays(t, l, "40000000000002")
	for range 2 {
		crash(t, d)
		l = open(t, d)
		wantSays(t, l, "40000000000002")
	}
}

func TestCommitRefuses(t *testing.T) {
	short, long := of(1)[:api.PageSize-1], append(of(1), 1)
	cases := []struct {
		name   string
		images []api.Image
		want   api.Errno
	}{
		{"a page past the last one", []api.Image{image(14, 1)}, api.ErrRange},
		{"a page below 0", []api.Image{image(-1, 1)}, api.ErrRange},
		{"pages far off", []api.Image{image(math.MaxInt, 1)}, api.ErrRange},
		{"pages far off", []api.Image{image(math.MinInt, 1)}, api.ErrRange},
		{"239 bytes", []api.Image{{Page: 3, Bytes: short}}, api.ErrArg},
		{"241 bytes", []api.Image{{Page: 3, Bytes: long}}, api.ErrArg},
		{"no bytes", []api.Image{{Page: 3}}, api.ErrArg},
		{"no such page, and no bytes", []api.Image{{Page: 14}}, api.ErrRange},
		{"a page twice", []api.Image{image(3, 1), image(3, 2)}, api.ErrArg},
		{"a page twice, alike", []api.Image{image(5, 1), image(3, 1), image(5, 1)}, api.ErrArg},
		{"a page twice, then none", []api.Image{image(3, 1), image(3, 2), image(14, 1)}, api.ErrArg},
		{"no such page, then one twice", []api.Image{image(3, 1), image(14, 1), image(3, 2)}, api.ErrRange},
		{"239 bytes, then no such page", []api.Image{{Page: 3, Bytes: short}, image(14, 1)}, api.ErrArg},
		{"no such page, then 239 bytes", []api.Image{image(14, 1), {Page: 3, Bytes: short}}, api.ErrRange},
		{"no such page, twice", []api.Image{image(14, 1), image(14, 1)}, api.ErrRange},
		{"the last of many", append(row(0, 14, 1), image(14, 1)), api.ErrRange},
	}
	d, l := fresh(t, 80)
	commit(t, l, image(2, 5))
	for _, c := range cases {
		before := d.Ops()
		wantErr(t, c.name, l.Commit(c.images...), c.want)
		wantUsed(t, l, 2)
		if d.Ops() != before {
			t.Errorf("%s: %d operations", c.name, d.Ops()-before)
		}
		wantSays(t, l, "00500000000000")
	}
	d.Cut(0)
	for _, c := range cases {
		wantErr(t, c.name+", without power", l.Commit(c.images...), c.want)
	}
	crash(t, d)
	wantSays(t, open(t, d), "00500000000000")
}

func TestCommitOfTooMany(t *testing.T) {
	_, l := fresh(t, 200)
	cases := []struct {
		images []api.Image
		want   api.Errno
	}{
		{row(0, api.MaxImages+1, 1), api.ErrLong},
		{row(0, 134, 1), api.ErrLong},
		{append(row(0, api.MaxImages+1, 1), image(134, 1)), api.ErrRange},
		{append(row(0, api.MaxImages+1, 1), image(0, 1)), api.ErrArg},
		{append(row(0, api.MaxImages+1, 1), api.Image{Page: 99}), api.ErrArg},
		{row(0, 135, 1), api.ErrRange},
		{row(0, api.MaxImages, 1), api.OK},
	}
	for _, c := range cases {
		wantErr(t, "Commit", l.Commit(c.images...), c.want)
		if c.want != api.OK {
			wantRead(t, l, 0, of(0))
			wantUsed(t, l, 0)
		}
	}
	wantUsed(t, l, api.MaxImages+1)
	for i := range 134 {
		want := of(0)
		if i < api.MaxImages {
			want = of(1)
		}
		wantRead(t, l, i, want)
	}
}

func TestCommitOfNone(t *testing.T) {
	d, l := fresh(t, 80)
	commit(t, l, image(3, 1))
	before := d.Ops()
	wantErr(t, "Commit of none", l.Commit(), api.OK)
	wantErr(t, "Commit of an empty list", l.Commit([]api.Image{}...), api.OK)
	wantUsed(t, l, 2)
	d.Cut(0)
	wantErr(t, "Commit of none without power", l.Commit(), api.OK)
	if d.Ops() != before || len(d.Dirty()) != 0 {
		t.Errorf("Commit of none: %d operations, dirty %v", d.Ops()-before, d.Dirty())
	}
}

// P4.5

func TestUsed(t *testing.T) {
	_, l := fresh(t, 200)
	steps := []struct{ images, want int }{
		{1, 2}, {5, 8}, {0, 8}, {54, 63}, {0, 63},
		{1, 2},            // one block was left
		{60, 63}, {0, 63}, // all but one
		{60, 61}, {2, 64}, // just full
		{0, 64}, {1, 2}, // none was left
		{59, 62}, {1, 64}, {60, 61}, {60, 61}, {3, 4},
	}
	for i, s := range steps {
		commit(t, l, row(i, s.images, byte(i))...)
		wantUsed(t, l, s.want)
		for k := range s.images {
			wantRead(t, l, i+k, of(byte(i)))
		}
	}
	checkpoint(t, l)
	wantUsed(t, l, 0)
	checkpoint(t, l)
	wantUsed(t, l, 0)
	commit(t, l, image(0, 1))
	wantUsed(t, l, 2)
}

// Behind a Checkpoint all stands in its place: the log may be written anew, and nothing of it is needed.
func TestCheckpoint(t *testing.T) {
	d, l := fresh(t, 80)
	commit(t, l, row(0, 14, 1)...)
	commit(t, l, row(4, 6, 2)...)
	checkpoint(t, l)
	wantSays(t, l, "11112222221111")
	c := d.Copy()
	crash(t, c)
	wantSays(t, open(t, c), "11112222221111")
	commit(t, l, image(0, 3))
	wantSays(t, l, "31112222221111")
	checkpoint(t, l)
	checkpoint(t, l)
	crash(t, d)
	wantSays(t, open(t, d), "31112222221111")
}

// A log that goes round many times, with transactions of all sizes at all places.
func TestLogGoesRound(t *testing.T) {
	d, l := fresh(t, 150)
	want := make([]byte, l.Pages())
	used := 0
	for i := range 400 {
		n := 1 + i*i%api.MaxImages
		first := i * 5 % (l.Pages() - n)
		commit(t, l, row(first, n, byte(i))...)
		for k := range n {
			want[first+k] = byte(i)
		}
		used += n + 1
		if used > api.LogBlocks {
			used = n + 1
		}
		wantUsed(t, l, used)
		c := d.Copy()
		crash(t, c)
		again := open(t, c)
		for p, x := range want {
			wantRead(t, again, p, of(x))
		}
	}
}

func TestHowManyOperations(t *testing.T) {
	for _, blocks := range []int{api.MinBlocks, 200, api.MaxBlocks} {
		d := device(t, blocks)
		count := func(call string, most int, e api.Errno, before int) {
			t.Helper()
			wantErr(t, call, e, api.OK)
			if n := d.Ops() - before; n > most {
				t.Errorf("%s: %d operations", call, n)
			}
		}
		before := d.Ops()
		count("Format", 4200, wal.Format(d), before)
		before = d.Ops()
		l, e := wal.Open(d)
		count("Open", 4200, e, before)
		n := min(l.Pages(), api.MaxImages)
		for i := range 20 {
			before = d.Ops()
			count("Commit", 512, l.Commit(row(i%(l.Pages()-n+1), n, 1)...), before)
			before = d.Ops()
			_, e = l.Read(l.Pages() - 1)
			count("Read", 512, e, before)
			commit(t, l, row(l.Pages()-2, 2, 2)...)
			before = d.Ops()
			if i%2 == 0 {
				l, e = wal.Open(d)
				count("Open", 4200, e, before)
			} else {
				count("Checkpoint", 512, l.Checkpoint(), before)
			}
		}
	}
}

// R3, R4, R5

func TestNil(t *testing.T) {
	var l *wal.Log
	if l.Pages() != 0 || l.Used() != 0 {
		t.Errorf("of nil: Pages %d, Used %d", l.Pages(), l.Used())
	}
	for _, page := range []int{-1, 0, 99} {
		if b, e := l.Read(page); len(b) != 0 || e != api.ErrNil {
			t.Errorf("Read of nil: %x, %d", b, e)
		}
		wantErr(t, "Commit of nil", l.Commit(image(page, 1)), api.ErrNil)
	}
	wantErr(t, "Commit of nil and none", l.Commit(), api.ErrNil)
	wantErr(t, "Commit of nil and too many", l.Commit(row(0, 61, 1)...), api.ErrNil)
	wantErr(t, "Checkpoint of nil", l.Checkpoint(), api.ErrNil)
}

func TestReadAnswersNewMemory(t *testing.T) {
	d, l := fresh(t, 80)
	commit(t, l, image(3, 1))
	for range 3 {
		for _, page := range []int{3, 4} {
			b, _ := l.Read(page)
			want := slices.Clone(b)
			other, _ := l.Read(page)
			b = b[:cap(b)]
			for i := range b {
				b[i] = 9
			}
			if !bytes.Equal(other, want) {
				t.Errorf("Read(%d) answers what was answered before", page)
			}
			wantRead(t, l, page, want)
		}
		checkpoint(t, l)
	}
	crash(t, d)
	wantSays(t, open(t, d), "00010000000000")
}

func TestCommitLeavesItsImages(t *testing.T) {
	d, l := fresh(t, 80)
	room := []api.Image{
		{Page: 3, Bytes: append(of(1), 7, 7)[:api.PageSize]},
		image(5, 2),
		image(7, 3),
	}
	commit(t, l, room[:2]...)
	for i, want := range []api.Image{image(3, 1), image(5, 2), image(7, 3)} {
		if room[i].Page != want.Page || !bytes.Equal(room[i].Bytes, want.Bytes) {
			t.Errorf("image %d is changed: %v", i, room[i])
		}
	}
	if behind := room[0].Bytes[:api.PageSize+2]; behind[240] != 7 || behind[241] != 7 {
		t.Errorf("changed behind the image's end: %x", behind[240:])
	}
	for i := range room {
		copy(room[i].Bytes, of(8))
		room[i].Page = 9
	}
	wantSays(t, l, "00010200000000")
	checkpoint(t, l)
	wantSays(t, l, "00010200000000")
	crash(t, d)
	wantSays(t, open(t, d), "00010200000000")
}

// What a call does to the device hangs on nothing but what was done: not on the order in which a map is gone through.
func TestSameOperations(t *testing.T) {
	base := formatted(t, 80)
	first := map[int]uint64{}
	for range 5 {
		for cut := range 60 {
			d := base.Copy()
			l := open(t, d)
			commit(t, l, row(0, 14, 1)...)
			d.Cut(cut)
			l.Checkpoint()
			l.Commit(row(2, 9, 2)...)
			d.Crash([]bool{true, false, true, false, true, false}, 100)
			got := fingerprint(d)
			if want, seen := first[cut]; seen && got != want {
				t.Fatalf("cut at %d: not as before", cut)
			}
			first[cut] = got
		}
	}
}

func TestLogsKnowNothingOfEachOther(t *testing.T) {
	d, l := fresh(t, 80)
	commit(t, l, image(1, 1))
	other := open(t, d.Copy())
	commit(t, other, image(2, 2))
	wantSays(t, l, "01000000000000")
	wantSays(t, other, "01200000000000")
	wantUsed(t, l, 2)
}

// The chapter's examples.
func TestExamples(t *testing.T) {
	d := device(t, 80)
	_, e := wal.Open(d)
	wantErr(t, "Open", e, api.ErrBlank)
	wantErr(t, "Format", wal.Format(d), api.OK)
	l := open(t, d)
	if l.Pages() != 14 {
		t.Errorf("Pages: %d", l.Pages())
	}
	wantRead(t, l, 3, of(0))
	wantErr(t, "Commit", l.Commit(image(3, 1)), api.OK)
	wantRead(t, l, 3, of(1))
	wantUsed(t, l, 2)
	wantErr(t, "Commit", l.Commit(image(14, 1)), api.ErrRange)
	wantErr(t, "Commit", l.Commit(api.Image{Page: 3, Bytes: of(1)[:239]}), api.ErrArg)
	wantErr(t, "Commit", l.Commit(image(3, 1), image(3, 2)), api.ErrArg)
	wantErr(t, "Commit", l.Commit(), api.OK)
	wantUsed(t, l, 2)
	wantErr(t, "Checkpoint", l.Checkpoint(), api.OK)
	wantUsed(t, l, 0)
	crash(t, d)
	wantRead(t, open(t, d), 3, of(1))
}
