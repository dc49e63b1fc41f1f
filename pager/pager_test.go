package pager_test

import (
	"bytes"
	"math"
	"slices"
	"strconv"
	"strings"
	"testing"

	"brickyard/api"
	"brickyard/disk"
	"brickyard/pager"
	"brickyard/wal"
)

// kept is how many blocks of a device are no pages: the log's, and the one with the pager's own page.
const kept = 2 + api.LogBlocks + 1

var faults = []api.Errno{api.ErrFull, api.ErrIO}

func of(x byte) []byte { return bytes.Repeat([]byte{x}, api.PageSize) }

func device(t *testing.T, blocks int) *disk.Disk {
	t.Helper()
	d, e := disk.New(blocks)
	if e != api.OK {
		t.Fatalf("New(%d): %d", blocks, e)
	}
	return d
}

func formatted(t *testing.T, blocks int) *disk.Disk {
	t.Helper()
	d := device(t, blocks)
	if e := pager.Format(d); e != api.OK {
		t.Fatalf("Format: %d", e)
	}
	return d
}

func open(t *testing.T, d *disk.Disk) *pager.Pager {
	t.Helper()
	p, e := pager.Open(d)
	if p == nil || e != api.OK {
		t.Fatalf("Open: %v, %d", p, e)
	}
	wantCount(t, "Touched", p.Touched(), 0)
	return p
}

func fresh(t *testing.T, blocks int) (*disk.Disk, *pager.Pager) {
	t.Helper()
	d := formatted(t, blocks)
	return d, open(t, d)
}

func crash(t *testing.T, d *disk.Disk) {
	t.Helper()
	if e := d.Crash(nil, 0); e != api.OK {
		t.Fatalf("Crash: %d", e)
	}
}

// reopened is the pager behind a crash that keeps nothing.
func reopened(t *testing.T, d *disk.Disk) *pager.Pager {
	t.Helper()
	crash(t, d)
	return open(t, d)
}

func commit(t *testing.T, p *pager.Pager) {
	t.Helper()
	if e := p.Commit(); e != api.OK {
		t.Fatalf("Commit: %d", e)
	}
	wantCount(t, "Touched", p.Touched(), 0)
}

func rollback(t *testing.T, p *pager.Pager) {
	t.Helper()
	if e := p.Rollback(); e != api.OK {
		t.Fatalf("Rollback: %d", e)
	}
	wantCount(t, "Touched", p.Touched(), 0)
}

func allot(t *testing.T, p *pager.Pager, want ...int) {
	t.Helper()
	for _, w := range want {
		if got, e := p.Allot(); got != w || e != api.OK {
			t.Fatalf("Allot: %d, %d, want %d", got, e, w)
		}
	}
}

func put(t *testing.T, p *pager.Pager, page int, x byte) {
	t.Helper()
	if e := p.Put(page, of(x)); e != api.OK {
		t.Fatalf("Put(%d): %d", page, e)
	}
}

func drop(t *testing.T, p *pager.Pager, pages ...int) {
	t.Helper()
	for _, page := range pages {
		if e := p.Drop(page); e != api.OK {
			t.Fatalf("Drop(%d): %d", page, e)
		}
	}
}

func setRoot(t *testing.T, p *pager.Pager, i, page int) {
	t.Helper()
	if e := p.SetRoot(i, page); e != api.OK {
		t.Fatalf("SetRoot(%d, %d): %d", i, page, e)
	}
}

func wantErr(t *testing.T, call string, got, want api.Errno) {
	t.Helper()
	if got != want {
		t.Errorf("%s: %d, want %d", call, got, want)
	}
}

func wantCount(t *testing.T, name string, got, want int) {
	t.Helper()
	if got != want {
		t.Errorf("%s: %d, want %d", name, got, want)
	}
}

func wantGet(t *testing.T, p *pager.Pager, page int, want []byte) {
	t.Helper()
	if got, e := p.Get(page); e != api.OK || !bytes.Equal(got, want) {
		t.Errorf("Get(%d): %x, %d, want %x", page, got, e, want)
	}
}

func wantNoGet(t *testing.T, p *pager.Pager, page int, want api.Errno) {
	t.Helper()
	if got, e := p.Get(page); e != want || len(got) > 0 {
		t.Errorf("Get(%d): %x, %d, want %d", page, got, e, want)
	}
}

func wantNoAllot(t *testing.T, p *pager.Pager, want api.Errno) {
	t.Helper()
	if got, e := p.Allot(); e != want || got != 0 {
		t.Errorf("Allot: %d, %d, want %d", got, e, want)
	}
}

func wantRoot(t *testing.T, p *pager.Pager, i, want int) {
	t.Helper()
	if got, e := p.Root(i); e != api.OK || got != want {
		t.Errorf("Root(%d): %d, %d, want %d", i, got, e, want)
	}
}

// says is a letter for each page (. if it is not allotted, else what all of it is) and the roots that are not 0.
func says(t *testing.T, p *pager.Pager) string {
	t.Helper()
	var s strings.Builder
	free := 0
	for i := 1; i <= p.Size(); i++ {
		b, e := p.Get(i)
		switch {
		case e == api.ErrNone:
			free++
			s.WriteByte('.')
		case e != api.OK || len(b) != api.PageSize || !bytes.Equal(b, of(b[0])):
			t.Fatalf("Get(%d): %x, %d", i, b, e)
		default:
			s.WriteByte('0' + b[0])
		}
	}
	wantCount(t, "Free", p.Free(), free)
	for i := range api.MaxRoots {
		r, e := p.Root(i)
		wantErr(t, "Root", e, api.OK)
		if r != 0 {
			s.WriteString(" " + strconv.Itoa(i) + ":" + strconv.Itoa(r))
		}
	}
	return s.String()
}

// tells is what a pager of a copy of the device says, and the pages that it allots then, one behind the other, up to the
// one from which on all that come are in a row. (The device has at most MaxTouch pages.)
func tells(t *testing.T, d *disk.Disk) string {
	t.Helper()
	p := open(t, d.Copy())
	s := says(t, p) + " >"
	var free []int
	for p.Free() > 0 {
		page, e := p.Allot()
		if e != api.OK {
			t.Fatalf("Allot: %d", e)
		}
		free = append(free, page)
	}
	for last := p.Size(); len(free) > 1 && slices.Equal(free[len(free)-2:], []int{last - 1, last}); last-- {
		free = free[:len(free)-1]
	}
	for _, page := range free {
		s += " " + strconv.Itoa(page)
	}
	return s
}

func wantSays(t *testing.T, p *pager.Pager, want string) {
	t.Helper()
	if got := says(t, p); got != want {
		t.Errorf("it says %s, want %s", got, want)
	}
}

func wantTells(t *testing.T, d *disk.Disk, want string) {
	t.Helper()
	if got := tells(t, d); got != want {
		t.Errorf("it tells %s, want %s", got, want)
	}
}

// Of a device of 80 blocks: the state at first, and the one that some makes.
const (
	none      = "............."
	nothing   = none + " > 1"
	someSays  = "1.3.5........ 0:3 7:2"
	someTells = someSays + " > 4 2 6"
)

// some makes a state of five pages, of which two are dropped, one of these being a root.
func some(t *testing.T, p *pager.Pager) {
	t.Helper()
	allot(t, p, 1, 2, 3, 4, 5)
	for k := 1; k <= 5; k++ {
		put(t, p, k, byte(k))
	}
	setRoot(t, p, 0, 3)
	setRoot(t, p, 7, 2)
	drop(t, p, 2, 4)
	commit(t, p)
}

// P5.1

func TestFormat(t *testing.T) {
	wantErr(t, "Format of nil", pager.Format(nil), api.ErrNil)
	for _, blocks := range []int{api.MinBlocks, 81, 200, api.MaxBlocks} {
		d := formatted(t, blocks)
		crash(t, d)
		p := open(t, d)
		wantCount(t, "Size", p.Size(), blocks-kept)
		wantCount(t, "Free", p.Free(), blocks-kept)
		for i := 1; i <= p.Size(); i++ {
			wantNoGet(t, p, i, api.ErrNone)
		}
		for i := range api.MaxRoots {
			wantRoot(t, p, i, 0)
		}
		allot(t, p, 1, 2)
		wantGet(t, p, 2, of(0))
	}
}

func TestFormatOfAUsedDevice(t *testing.T) {
	d, p := fresh(t, 80)
	some(t, p)
	wantErr(t, "Format", pager.Format(d), api.OK)
	wantTells(t, d, nothing)
	crash(t, d)
	wantTells(t, d, nothing)
	p = open(t, d)
	allot(t, p, 1, 2, 3)
	commit(t, p)
	crash(t, d)
	wantTells(t, d, "000.......... > 4")
}

// Format answers what the log's Format answers, and may be called again.
func TestFormatMeetsErrors(t *testing.T) {
	for _, fault := range faults {
		for _, at := range []int{0, 1, 40, 79, 80, 81, 82} {
			d := device(t, 80)
			d.Fail(at, fault)
			c := d.Copy()
			want := wal.Format(c)
			wantErr(t, "Format", pager.Format(d), want)
			wantErr(t, "Format", want, fault)
			wantErr(t, "Format again", pager.Format(d), api.OK)
			wantTells(t, d, nothing)
		}
	}
	d := device(t, 80)
	d.Cut(3)
	wantErr(t, "Format", pager.Format(d), api.ErrPower)
	crash(t, d)
	wantErr(t, "Format", pager.Format(d), api.OK)
	wantTells(t, d, nothing)
}

func wantNoOpen(t *testing.T, d *disk.Disk, want api.Errno) {
	t.Helper()
	if p, e := pager.Open(d); p != nil || e != want {
		t.Errorf("Open: %v, %d, want %d", p, e, want)
	}
}

func TestOpen(t *testing.T) {
	wantNoOpen(t, nil, api.ErrNil)
	wantNoOpen(t, device(t, 80), api.ErrBlank)
	d, p := fresh(t, 80)
	wantSays(t, p, none)
	some(t, p)
	wantTells(t, d, someTells)
	p = open(t, d)
	wantSays(t, p, someSays)
	wantCount(t, "Free", p.Free(), 10)
	wantCount(t, "Touched", p.Touched(), 0)
	crash(t, d)
	wantTells(t, d, someTells)
}

// The transaction is not there any more when the device is opened again, crash or none.
func TestOpenHasNoTransaction(t *testing.T) {
	d, p := fresh(t, 80)
	some(t, p)
	allot(t, p, 4)
	put(t, p, 1, 9)
	drop(t, p, 3)
	setRoot(t, p, 1, 1)
	wantTells(t, d, someTells)
	wantSays(t, open(t, d), someSays)
	crash(t, d)
	wantTells(t, d, someTells)
}

// The stack of dropped pages is found however long it is: all pages of a device but one, and all.
func TestOpenFindsTheStack(t *testing.T) {
	for _, blocks := range []int{api.MinBlocks, 150, api.MaxBlocks} {
		d, p := fresh(t, blocks)
		size := p.Size()
		for k := 1; k <= size; k++ {
			allot(t, p, k)
			if p.Touched() == api.MaxTouch {
				commit(t, p)
			}
		}
		commit(t, p)
		var order []int
		for k := range size {
			order = append(order, 1+(k*7+3)%size) // 7 divides none of the sizes
		}
		for n, page := range order {
			if n == size-1 {
				p = reopened(t, d)
				wantCount(t, "Free", p.Free(), size-1)
				wantGet(t, p, page, of(0))
			}
			drop(t, p, page)
			if p.Touched() == api.MaxTouch || n >= size-2 {
				commit(t, p)
			}
		}
		p = reopened(t, d)
		wantCount(t, "Free", p.Free(), size)
		slices.Reverse(order)
		for _, page := range order {
			allot(t, p, page)
			if p.Touched() == api.MaxTouch {
				commit(t, p)
			}
		}
		wantNoAllot(t, p, api.ErrFull)
	}
}

// logged is a device in whose log the pager's own page, and each other one, begin with these bytes.
func logged(t *testing.T, own, other []byte) *disk.Disk {
	t.Helper()
	d := formatted(t, 80)
	l, _ := wal.Open(d)
	var images []api.Image
	for page := range l.Pages() {
		b := of(0)
		copy(b, other)
		if page == 0 {
			b = of(0)
			copy(b, own)
		}
		images = append(images, api.Image{Page: page, Bytes: b})
	}
	wantErr(t, "Commit", l.Commit(images...), api.OK)
	return d
}

// A log in which something else stands is none that Format made.
func TestOpenOfOtherLogs(t *testing.T) {
	for _, own := range [][]byte{
		of(255), of(1), of(128), {14}, {13, 1}, {0, 128}, // more pages than there are
		{5, 0, 6}, {5, 0, 0, 1}, {0, 0, 1}, {13, 0, 14}, {13, 0, 255, 255}, // a top that was never allotted
		{5, 0, 0, 0, 6}, {5, 0, 0, 0, 0, 1}, {0, 0, 0, 0, 0, 0, 1}, // roots that were never allotted
		append(make([]byte, 18), 1),
	} {
		wantNoOpen(t, logged(t, own, nil), api.ErrBlank)
	}
	for _, below := range [][]byte{{0}, {6}, {14}, {255, 255}, {0, 1}, {0, 128}} {
		wantNoOpen(t, logged(t, []byte{5, 0, 2}, below), api.ErrBlank)
		wantNoOpen(t, logged(t, []byte{200, 0, 2}, below), api.ErrBlank)
	}
	wantNoOpen(t, logged(t, []byte{200, 0, 2}, []byte{100}), api.ErrBlank)
	p := open(t, logged(t, []byte{5, 0, 2}, []byte{2}))
	wantCount(t, "Free", p.Free(), 13-5+1)
	allot(t, p, 2, 6)
}

// Whatever stands in the log, Open answers, and so do the calls behind it.
func TestCallsOnOtherLogs(t *testing.T) {
	for i := range 24 {
		for _, x := range []byte{1, 3, 5, 6, 13, 14, 255} {
			own := make([]byte, 24)
			own[0], own[i] = 5, x
			for _, other := range [][]byte{nil, {1, 1}, {2}, of(255)} {
				p, e := pager.Open(logged(t, own, other))
				if (p == nil) == (e == api.OK) {
					t.Errorf("%x: Open: %v, %d", own, p, e)
				}
				for range 14 {
					p.Allot()
					p.Drop(2)
				}
				p.Get(1)
				p.Commit()
			}
		}
	}
}

// Circles in the stack end, from wherever they are entered.
func TestOpenOfCircles(t *testing.T) {
	for top := 1; top <= 5; top++ {
		for back := 1; back <= 5; back++ {
			d := formatted(t, 80)
			l, _ := wal.Open(d)
			images := []api.Image{{Page: 0, Bytes: append([]byte{5, 0, byte(top)}, of(0)[3:]...)}}
			for k := 1; k <= 5; k++ {
				next := byte(k + 1)
				if k == 5 {
					next = byte(back)
				}
				images = append(images, api.Image{Page: k, Bytes: append([]byte{next}, of(0)[1:]...)})
			}
			wantErr(t, "Commit", l.Commit(images...), api.OK)
			if back == 5 {
				wantCount(t, "Free", open(t, d).Free(), 13-5+6-top)
				continue
			}
			wantNoOpen(t, d, api.ErrBlank)
		}
	}
}

// P5.2

func TestCounts(t *testing.T) {
	var none *pager.Pager
	wantCount(t, "Size of nil", none.Size(), 0)
	wantCount(t, "Free of nil", none.Free(), 0)
	wantCount(t, "Touched of nil", none.Touched(), 0)
	for _, blocks := range []int{api.MinBlocks, 81, 126, 200, 4095, api.MaxBlocks} {
		_, p := fresh(t, blocks)
		size := blocks - kept
		want := func(free, touched int) {
			t.Helper()
			wantCount(t, "Size", p.Size(), size)
			wantCount(t, "Free", p.Free(), free)
			wantCount(t, "Touched", p.Touched(), touched)
		}
		want(size, 0)
		allot(t, p, 1, 2, 3)
		want(size-3, 3)
		put(t, p, 2, 7)
		want(size-3, 3)
		drop(t, p, 2)
		want(size-2, 3)
		setRoot(t, p, 4, 1)
		want(size-2, 3)
		commit(t, p)
		want(size-2, 0)
		setRoot(t, p, 4, 3)
		want(size-2, 0)
		put(t, p, 3, 1)
		put(t, p, 3, 2)
		want(size-2, 1)
		drop(t, p, 1)
		want(size-1, 2)
		allot(t, p, 1)
		want(size-2, 2)
		allot(t, p, 2, 4)
		want(size-4, 4)
		rollback(t, p)
		want(size-2, 0)
	}
}

// P5.3

func TestGetAndPut(t *testing.T) {
	d, p := fresh(t, 80)
	allot(t, p, 1, 2)
	wantGet(t, p, 1, of(0))
	put(t, p, 2, 1)
	wantGet(t, p, 2, of(1))
	wantGet(t, p, 1, of(0))
	put(t, p, 2, 2)
	wantGet(t, p, 2, of(2))
	b := of(0)
	for i := range b {
		b[i] = byte(i)
	}
	wantErr(t, "Put", p.Put(1, b), api.OK)
	commit(t, p)
	wantGet(t, p, 1, b)
	wantGet(t, p, 2, of(2))
	put(t, p, 2, 3)
	wantGet(t, p, 2, of(3))
	p = reopened(t, d)
	wantGet(t, p, 1, b)
	wantGet(t, p, 2, of(2))
}

// All pages keep what they have, in the log and once they were carried to their places.
func TestAllPagesAreKept(t *testing.T) {
	for _, blocks := range []int{api.MinBlocks, 200, api.MaxBlocks} {
		d, p := fresh(t, blocks)
		own := func(k int) []byte {
			b := of(byte(k))
			b[0], b[1] = byte(k>>8), byte(k)
			return b
		}
		for k := 1; k <= p.Size(); k++ {
			allot(t, p, k)
			wantErr(t, "Put", p.Put(k, own(k)), api.OK)
			if p.Touched() == api.MaxTouch || k == p.Size() {
				commit(t, p)
			}
		}
		setRoot(t, p, 7, p.Size())
		commit(t, p)
		look := func() {
			t.Helper()
			for k := 1; k <= p.Size(); k++ {
				wantGet(t, p, k, own(k))
			}
			wantRoot(t, p, 7, p.Size())
			wantCount(t, "Free", p.Free(), 0)
		}
		look()
		p = reopened(t, d)
		look()
	}
}

// wrongPages are no pages of a device of 80 blocks.
var wrongPages = []int{0, -1, 14, 15, 80, 4096, 65536, 65537, math.MaxInt, math.MinInt, math.MaxInt32, math.MinInt32}

func TestGetRefuses(t *testing.T) {
	var none *pager.Pager
	_, p := fresh(t, 80)
	allot(t, p, 1, 2)
	drop(t, p, 1)
	for _, page := range wrongPages {
		wantNoGet(t, none, page, api.ErrNil)
		wantNoGet(t, p, page, api.ErrRange)
	}
	wantNoGet(t, none, 1, api.ErrNil)
	for _, page := range []int{1, 3, 12, 13} {
		wantNoGet(t, p, page, api.ErrNone)
	}
	commit(t, p)
	for _, page := range []int{1, 3, 12, 13} {
		wantNoGet(t, p, page, api.ErrNone)
	}
	wantGet(t, p, 2, of(0))
}

func TestPutRefuses(t *testing.T) {
	var none *pager.Pager
	_, p := fresh(t, 80)
	allot(t, p, 1, 2)
	drop(t, p, 1)
	lists := [][]byte{nil, {}, {1}, of(1)[:239], append(of(1), 1), make([]byte, api.BlockSize), make([]byte, 1<<16)}
	for _, b := range append(lists, of(1)) {
		for _, page := range wrongPages {
			wantErr(t, "Put to nil", none.Put(page, b), api.ErrNil)
			wantErr(t, "Put past the ends", p.Put(page, b), api.ErrRange)
		}
		wantErr(t, "Put to nil", none.Put(2, b), api.ErrNil)
		for _, page := range []int{1, 3, 13} {
			wantErr(t, "Put to a free page", p.Put(page, b), api.ErrNone)
		}
	}
	for _, b := range lists {
		wantErr(t, "Put of another size", p.Put(2, b), api.ErrArg)
	}
	wantSays(t, p, ".0...........")
	wantCount(t, "Touched", p.Touched(), 2)
}

// The bytes are what counts, not the room behind them.
func TestPutOfAPieceOfAList(t *testing.T) {
	_, p := fresh(t, 80)
	allot(t, p, 1)
	room := make([]byte, 0, 1000)
	wantErr(t, "Put of none with room", p.Put(1, room), api.ErrArg)
	l := append(room, of(4)...)
	l = append(l, 9, 9, 9)
	wantErr(t, "Put", p.Put(1, l[:api.PageSize]), api.OK)
	if !bytes.Equal(l, append(of(4), 9, 9, 9)) {
		t.Error("Put changed what it was handed")
	}
	wantGet(t, p, 1, of(4))
}

func TestPutLong(t *testing.T) {
	d, p := fresh(t, 200)
	touchMost(t, p)
	commit(t, p)
	allot(t, p, 60, 61)
	commit(t, p)
	for k := 1; k <= api.MaxTouch; k++ {
		put(t, p, k, 1)
	}
	wantCount(t, "Touched", p.Touched(), api.MaxTouch)
	wantErr(t, "Put of one more", p.Put(60, of(1)), api.ErrLong)
	wantErr(t, "Put of one more", p.Put(61, of(1)), api.ErrLong)
	wantErr(t, "Put of one more, of another size", p.Put(60, of(1)[:239]), api.ErrArg)
	wantErr(t, "Put of one more, not allotted", p.Put(62, of(1)), api.ErrNone)
	wantErr(t, "Put of one more, past the end", p.Put(134, of(1)), api.ErrRange)
	wantCount(t, "Touched", p.Touched(), api.MaxTouch)
	wantGet(t, p, 60, of(0))
	put(t, p, 1, 2)
	put(t, p, 59, 2)
	commit(t, p)
	put(t, p, 60, 3)
	commit(t, p)
	p = reopened(t, d)
	for k, x := range map[int]byte{1: 2, 2: 1, 58: 1, 59: 2, 60: 3, 61: 0} {
		wantGet(t, p, k, of(x))
	}
}

// touchMost allots the pages from 1 to MaxTouch.
func touchMost(t *testing.T, p *pager.Pager) {
	t.Helper()
	for k := 1; k <= api.MaxTouch; k++ {
		allot(t, p, k)
	}
	wantCount(t, "Touched", p.Touched(), api.MaxTouch)
}

func TestListsAreNew(t *testing.T) {
	d, p := fresh(t, 80)
	allot(t, p, 1, 2)
	b := of(1)
	wantErr(t, "Put", p.Put(1, b), api.OK)
	wantErr(t, "Put", p.Put(2, b), api.OK)
	if !bytes.Equal(b, of(1)) {
		t.Error("Put changed what it was handed")
	}
	clear(b)
	spoil := func() {
		t.Helper()
		for page := 1; page <= 2; page++ {
			got, _ := p.Get(page)
			for i := range got[:cap(got)] {
				got[:cap(got)][i] = 7
			}
			wantGet(t, p, page, of(1))
		}
	}
	spoil()
	commit(t, p)
	spoil()
	p = open(t, d)
	spoil()
	p = reopened(t, d)
	wantSays(t, p, "11...........")
}

// P5.4

func TestAllotRises(t *testing.T) {
	d, p := fresh(t, 80)
	for k := 1; k <= 13; k++ {
		wantNoGet(t, p, k, api.ErrNone)
		allot(t, p, k)
		wantGet(t, p, k, of(0))
		wantCount(t, "Free", p.Free(), 13-k)
		if k%3 == 0 {
			commit(t, p)
		}
	}
	wantNoAllot(t, p, api.ErrFull)
	commit(t, p)
	wantNoAllot(t, p, api.ErrFull)
	p = reopened(t, d)
	wantNoAllot(t, p, api.ErrFull)
	wantSays(t, p, "0000000000000")
	wantCount(t, "Touched", p.Touched(), 0)
	drop(t, p, 9)
	allot(t, p, 9)
	wantNoAllot(t, p, api.ErrFull)
	var none *pager.Pager
	wantNoAllot(t, none, api.ErrNil)
}

// What was dropped last is allotted first; then what was never allotted, the least one first.
func TestAllotGoesByTheStack(t *testing.T) {
	d, p := fresh(t, 80)
	allot(t, p, 1, 2, 3, 4, 5, 6)
	drop(t, p, 3, 1, 6)
	allot(t, p, 6)
	drop(t, p, 2)
	allot(t, p, 2, 1)
	drop(t, p, 5, 1)
	commit(t, p)
	wantTells(t, d, ".0.0.0....... > 1 5 3 7")
	allot(t, p, 1, 5)
	drop(t, p, 6)
	wantTells(t, d, ".0.0.0....... > 1 5 3 7")
	commit(t, p)
	wantTells(t, d, "00.00........ > 6 3 7")
	allot(t, p, 6, 3, 7, 8)
	drop(t, p, 8, 7)
	commit(t, p)
	crash(t, d)
	wantTells(t, d, "000000....... > 7")
}

func TestAllotOfADroppedPageHasNoughts(t *testing.T) {
	d, p := fresh(t, 80)
	allot(t, p, 1, 2, 3)
	put(t, p, 1, 7)
	drop(t, p, 1)
	allot(t, p, 1)
	wantGet(t, p, 1, of(0))
	put(t, p, 1, 7)
	put(t, p, 2, 8)
	commit(t, p)
	drop(t, p, 1)
	drop(t, p, 2)
	allot(t, p, 2)
	wantGet(t, p, 2, of(0))
	commit(t, p)
	p = reopened(t, d)
	wantSays(t, p, ".00..........")
	allot(t, p, 1)
	wantGet(t, p, 1, of(0))
	commit(t, p)
	wantGet(t, p, 1, of(0))
	p = reopened(t, d)
	wantSays(t, p, "000..........")
}

func TestAllotLong(t *testing.T) {
	d, p := fresh(t, 200)
	touchMost(t, p)
	wantNoAllot(t, p, api.ErrLong)
	wantCount(t, "Touched", p.Touched(), api.MaxTouch)
	wantCount(t, "Free", p.Free(), 133-api.MaxTouch)
	wantNoGet(t, p, 60, api.ErrNone)
	drop(t, p, 30, 7)
	allot(t, p, 7, 30)
	wantNoAllot(t, p, api.ErrLong)
	commit(t, p)
	allot(t, p, 60)
	drop(t, p, 60, 1)
	commit(t, p)
	// The page on top of the stack is not touched.
	for k := 2; k <= 59; k++ {
		put(t, p, k, 1)
	}
	allot(t, p, 1)
	wantNoAllot(t, p, api.ErrLong)
	wantCount(t, "Touched", p.Touched(), api.MaxTouch)
	drop(t, p, 1)
	allot(t, p, 1)
	wantNoAllot(t, p, api.ErrLong)
	wantCount(t, "Free", p.Free(), 133-59)
	commit(t, p)
	allot(t, p, 60)
	commit(t, p)
	p = reopened(t, d)
	wantGet(t, p, 1, of(0))
	wantGet(t, p, 59, of(1))
	wantGet(t, p, 60, of(0))
	allot(t, p, 61)
}

// All pages are allotted, and MaxTouch are touched: that none is free is answered first.
func TestAllotFullAheadOfLong(t *testing.T) {
	_, p := fresh(t, kept+api.MaxTouch)
	touchMost(t, p)
	wantNoAllot(t, p, api.ErrFull)
	drop(t, p, 5)
	allot(t, p, 5)
	_, p = fresh(t, kept+api.MaxTouch+1)
	touchMost(t, p)
	wantNoAllot(t, p, api.ErrLong)
	commit(t, p)
	allot(t, p, 60)
	for k := 1; k < api.MaxTouch; k++ {
		put(t, p, k, 1)
	}
	wantNoAllot(t, p, api.ErrFull)
}

func TestDropRefuses(t *testing.T) {
	var none *pager.Pager
	_, p := fresh(t, 80)
	allot(t, p, 1, 2)
	drop(t, p, 1)
	for _, page := range append(wrongPages, 1, 2, 3, 13) {
		wantErr(t, "Drop of nil", none.Drop(page), api.ErrNil)
	}
	for _, page := range wrongPages {
		wantErr(t, "Drop past the ends", p.Drop(page), api.ErrRange)
	}
	for _, page := range []int{1, 3, 13} {
		wantErr(t, "Drop of a free page", p.Drop(page), api.ErrNone)
	}
	wantCount(t, "Free", p.Free(), 12)
	wantCount(t, "Touched", p.Touched(), 2)
	commit(t, p)
	wantErr(t, "Drop of a free page", p.Drop(1), api.ErrNone)
	wantCount(t, "Touched", p.Touched(), 0)
	allot(t, p, 1, 3)
}

func TestDropLong(t *testing.T) {
	d, p := fresh(t, 200)
	touchMost(t, p)
	commit(t, p)
	allot(t, p, 60, 61)
	commit(t, p)
	for k := 1; k <= api.MaxTouch; k++ {
		drop(t, p, k)
	}
	wantCount(t, "Touched", p.Touched(), api.MaxTouch)
	wantErr(t, "Drop of one more", p.Drop(60), api.ErrLong)
	wantErr(t, "Drop of one that is free", p.Drop(1), api.ErrNone)
	wantErr(t, "Drop of one that was never allotted", p.Drop(62), api.ErrNone)
	wantErr(t, "Drop past the end", p.Drop(134), api.ErrRange)
	wantErr(t, "Put of one more", p.Put(61, of(1)), api.ErrLong)
	wantCount(t, "Free", p.Free(), 133-2)
	allot(t, p, 59)
	drop(t, p, 59)
	commit(t, p)
	p = reopened(t, d)
	wantGet(t, p, 60, of(0))
	drop(t, p, 60)
	allot(t, p, 60, 59, 58, 57)
}

// P5.5

func TestRoots(t *testing.T) {
	d, p := fresh(t, 80)
	allot(t, p, 1, 2, 3)
	for i := range api.MaxRoots {
		wantRoot(t, p, i, 0)
		setRoot(t, p, i, 1+i%3)
	}
	for i := range api.MaxRoots {
		wantRoot(t, p, i, 1+i%3)
	}
	wantCount(t, "Touched", p.Touched(), 3)
	commit(t, p)
	setRoot(t, p, 7, 0)
	setRoot(t, p, 0, 3)
	wantRoot(t, p, 7, 0)
	wantRoot(t, p, 0, 3)
	wantCount(t, "Touched", p.Touched(), 0)
	wantTells(t, d, "000.......... 0:1 1:2 2:3 3:1 4:2 5:3 6:1 7:2 > 4")
	commit(t, p)
	crash(t, d)
	wantTells(t, d, "000.......... 0:3 1:2 2:3 3:1 4:2 5:3 6:1 > 4")
}

func TestRootsRefuse(t *testing.T) {
	var none *pager.Pager
	_, p := fresh(t, 80)
	allot(t, p, 1, 2, 3)
	drop(t, p, 3)
	setRoot(t, p, 2, 1)
	for _, i := range []int{0, 7, 8, -1, math.MaxInt, math.MinInt} {
		if r, e := none.Root(i); r != 0 || e != api.ErrNil {
			t.Errorf("Root of nil: %d, %d", r, e)
		}
		for _, page := range []int{0, 1, -1, 99} {
			wantErr(t, "SetRoot of nil", none.SetRoot(i, page), api.ErrNil)
		}
	}
	for _, i := range []int{8, 9, -1, 1 << 16, math.MaxInt, math.MinInt} {
		if r, e := p.Root(i); r != 0 || e != api.ErrRange {
			t.Errorf("Root(%d): %d, %d", i, r, e)
		}
		for _, page := range []int{0, 1, 3, 4, -1, 14} {
			wantErr(t, "SetRoot past the ends", p.SetRoot(i, page), api.ErrRange)
		}
	}
	for _, i := range []int{0, 2, 7} {
		for _, page := range wrongPages[1:] {
			wantErr(t, "SetRoot to no page", p.SetRoot(i, page), api.ErrRange)
		}
		for _, page := range []int{3, 4, 13} {
			wantErr(t, "SetRoot to a free page", p.SetRoot(i, page), api.ErrNone)
		}
	}
	wantSays(t, p, "00........... 2:1")
}

// A root goes on naming a page that is dropped, and allotted again.
func TestRootOfADroppedPage(t *testing.T) {
	d, p := fresh(t, 80)
	allot(t, p, 1, 2)
	setRoot(t, p, 3, 2)
	drop(t, p, 2)
	wantRoot(t, p, 3, 2)
	wantErr(t, "SetRoot to a dropped page", p.SetRoot(3, 2), api.ErrNone)
	wantErr(t, "SetRoot to a dropped page", p.SetRoot(4, 2), api.ErrNone)
	commit(t, p)
	crash(t, d)
	wantTells(t, d, "0............ 3:2 > 2")
	p = open(t, d)
	setRoot(t, p, 5, 0)
	allot(t, p, 2)
	wantRoot(t, p, 3, 2)
	setRoot(t, p, 5, 2)
	wantSays(t, p, "00........... 3:2 5:2")
	drop(t, p, 2)
	setRoot(t, p, 3, 0)
	wantSays(t, p, "0............ 5:2")
}

// P5.6

func TestCommit(t *testing.T) {
	var none *pager.Pager
	wantErr(t, "Commit of nil", none.Commit(), api.ErrNil)
	d, p := fresh(t, 80)
	some(t, p)
	wantSays(t, p, someSays)
	for range 2 {
		crash(t, d)
		wantTells(t, d, someTells)
		p = open(t, d)
		commit(t, p)
	}
	put(t, p, 1, 8)
	commit(t, p)
	allot(t, p, 4)
	commit(t, p)
	drop(t, p, 5)
	commit(t, p)
	setRoot(t, p, 1, 3)
	commit(t, p)
	crash(t, d)
	wantTells(t, d, "8.30......... 0:3 1:3 7:2 > 5 2 6")
}

func TestCommitOfNothing(t *testing.T) {
	d, p := fresh(t, 80)
	commit(t, p)
	wantTells(t, d, nothing)
	some(t, p)
	for range 100 {
		commit(t, p)
		rollback(t, p)
	}
	wantSays(t, p, someSays)
	crash(t, d)
	wantTells(t, d, someTells)
}

// A transaction that undoes all it did leaves the state as it was, but for what the pages had that were dropped.
func TestCommitOfWhatIsUndone(t *testing.T) {
	d, p := fresh(t, 80)
	some(t, p)
	allot(t, p, 4)
	drop(t, p, 4)
	setRoot(t, p, 0, 1)
	setRoot(t, p, 0, 3)
	drop(t, p, 5)
	allot(t, p, 5)
	commit(t, p)
	crash(t, d)
	wantTells(t, d, "1.3.0........ 0:3 7:2 > 4 2 6")
	p = open(t, d)
	allot(t, p, 4, 2)
	drop(t, p, 4, 2) // the other way round
	commit(t, p)
	crash(t, d)
	wantTells(t, d, "1.3.0........ 0:3 7:2 > 2 4 6")
}

func TestRollback(t *testing.T) {
	wantErr(t, "Rollback of nil", (*pager.Pager)(nil).Rollback(), api.ErrNil)
	d, p := fresh(t, 80)
	rollback(t, p)
	allot(t, p, 1, 2)
	setRoot(t, p, 0, 2)
	rollback(t, p)
	wantSays(t, p, none)
	some(t, p)
	changes := []func(){
		func() { p.Put(1, of(9)) },
		func() { p.Allot(); p.Allot(); p.Allot(); p.Allot() },
		func() { p.Drop(5); p.Drop(1) },
		func() { p.SetRoot(0, 0); p.SetRoot(3, 3) },
		func() { p.Drop(3); p.Allot(); p.Put(3, of(8)); p.SetRoot(1, 3) },
		func() { p.Put(2, of(6)); p.Drop(4); p.Drop(2); p.Allot() },
	}
	for which := range 1 << len(changes) {
		for i, change := range changes {
			if which>>i&1 == 1 {
				change()
			}
		}
		rollback(t, p)
		wantSays(t, p, someSays)
		wantCount(t, "Free", p.Free(), 10)
	}
	allot(t, p, 4, 2, 6)
	rollback(t, p)
	wantTells(t, d, someTells)
	allot(t, p, 4)
	commit(t, p)
	crash(t, d)
	wantTells(t, d, "1.305........ 0:3 7:2 > 2 6")
}

// A rollback leaves what was committed by the same pager before.
func TestRollbackBehindCommits(t *testing.T) {
	d, p := fresh(t, 80)
	for k := 1; k <= 10; k++ {
		allot(t, p, k)
		put(t, p, k, byte(k%10))
		commit(t, p)
		allot(t, p, k+1)
		drop(t, p, k)
		rollback(t, p)
		wantGet(t, p, k, of(byte(k%10)))
	}
	drop(t, p, 3, 5)
	commit(t, p)
	drop(t, p, 7)
	rollback(t, p)
	wantSays(t, p, "12.4.67890...")
	wantTells(t, d, "12.4.67890... > 5 3 11")
}

// P5.8

func TestEachPageOnce(t *testing.T) {
	for _, blocks := range []int{80, 190} {
		_, p := fresh(t, blocks)
		held := map[int]int{}
		n := 0
		for range 5 {
			for len(held) < p.Size() {
				free := p.Free()
				page, e := p.Allot()
				if e == api.ErrLong {
					commit(t, p)
					continue
				}
				if _, twice := held[page]; twice || e != api.OK || page < 1 || page > p.Size() {
					t.Fatalf("Allot: %d, %d", page, e)
				}
				n++
				held[page] = n
				wantCount(t, "Free", p.Free(), free-1)
			}
			wantNoAllot(t, p, api.ErrFull)
			commit(t, p)
			for k := 1; k <= p.Size(); k += 1 + n%3 {
				free := p.Free()
				if p.Drop(k) == api.ErrLong {
					commit(t, p)
					drop(t, p, k)
				}
				delete(held, k)
				wantCount(t, "Free", p.Free(), free+1)
			}
		}
	}
}

// P5.9

// MaxTouch pages are committed, one behind the other, however full the log is.
func TestMostIsCommitted(t *testing.T) {
	d, p := fresh(t, 200)
	touchMost(t, p)
	setRoot(t, p, 0, 59)
	commit(t, p)
	for round := range byte(20) {
		for k := 1; k <= api.MaxTouch; k++ {
			put(t, p, k, round)
		}
		setRoot(t, p, int(round)%8, 1+int(round))
		commit(t, p)
		if round%5 == 4 {
			p = reopened(t, d)
		}
		for k := 1; k <= api.MaxTouch; k++ {
			wantGet(t, p, k, of(round))
		}
		wantRoot(t, p, int(round)%8, 1+int(round))
	}
	for k := 1; k <= api.MaxTouch; k++ {
		drop(t, p, k)
	}
	commit(t, p)
	p = reopened(t, d)
	wantCount(t, "Free", p.Free(), 133)
	for k := api.MaxTouch; k >= 1; k-- {
		allot(t, p, k)
	}
	commit(t, p)
	wantCount(t, "Free", p.Free(), 133-api.MaxTouch)
}

// Any number of touched pages up to the most, behind any of them.
func TestAnyNumberIsCommitted(t *testing.T) {
	d, p := fresh(t, 200)
	touchMost(t, p)
	commit(t, p)
	for n := range 3 * api.MaxTouch {
		for k := range n % (api.MaxTouch + 1) {
			put(t, p, 1+k, byte(n))
		}
		if n%2 == 0 {
			setRoot(t, p, 3, 1+n%7)
		}
		commit(t, p)
	}
	p = reopened(t, d)
	wantGet(t, p, 1, of(3*api.MaxTouch-1))
	wantRoot(t, p, 3, 1+(3*api.MaxTouch-1)%7)
}

// The chapter's examples.
func TestExamples(t *testing.T) {
	d := device(t, 80)
	wantErr(t, "Format", pager.Format(d), api.OK)
	p := open(t, d)
	wantCount(t, "Size", p.Size(), 13)
	wantCount(t, "Free", p.Free(), 13)
	allot(t, p, 1, 2)
	put(t, p, 2, 1)
	drop(t, p, 1)
	allot(t, p, 1)
	wantGet(t, p, 1, of(0))
	wantNoGet(t, p, 3, api.ErrNone)
	wantNoGet(t, p, 14, api.ErrRange)
	wantErr(t, "Drop(3)", p.Drop(3), api.ErrNone)
	wantErr(t, "Put of 239 bytes", p.Put(1, of(1)[:239]), api.ErrArg)
	wantCount(t, "Touched", p.Touched(), 2)
	setRoot(t, p, 0, 2)
	commit(t, p)
	drop(t, p, 2)
	rollback(t, p)
	wantGet(t, p, 2, of(1))
	wantRoot(t, p, 0, 2)
	wantCount(t, "Free", p.Free(), 11)
}
