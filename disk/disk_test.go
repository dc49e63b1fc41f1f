package disk_test

import (
	"bytes"
	"math"
	"math/rand"
	"slices"
	"testing"

	"brickyard/api"
	"brickyard/disk"
)

const maxAfter = 1 << 30

func of(x byte) []byte { return bytes.Repeat([]byte{x}, api.BlockSize) }

// torn is a block of which the first n bytes are x, the others y.
func torn(n int, x, y byte) []byte { return slices.Concat(of(x)[:n], of(y)[n:]) }

func device(t *testing.T, blocks int) *disk.Disk {
	t.Helper()
	d, e := disk.New(blocks)
	if d == nil || e != api.OK {
		t.Fatalf("New(%d): %v, %d", blocks, d, e)
	}
	return d
}

func write(t *testing.T, d *disk.Disk, i int, x byte) {
	t.Helper()
	if e := d.Write(i, of(x)); e != api.OK {
		t.Fatalf("Write(%d): %d", i, e)
	}
}

func flush(t *testing.T, d *disk.Disk) {
	t.Helper()
	if e := d.Flush(); e != api.OK {
		t.Fatalf("Flush: %d", e)
	}
}

func crash(t *testing.T, d *disk.Disk, keep []bool, torn int) {
	t.Helper()
	if e := d.Crash(keep, torn); e != api.OK {
		t.Fatalf("Crash: %d", e)
	}
}

func wantErr(t *testing.T, call string, got, want api.Errno) {
	t.Helper()
	if got != want {
		t.Errorf("%s: %d, want %d", call, got, want)
	}
}

func wantOps(t *testing.T, d *disk.Disk, want int) {
	t.Helper()
	if got := d.Ops(); got != want {
		t.Errorf("Ops: %d, want %d", got, want)
	}
}

func wantRead(t *testing.T, d *disk.Disk, i int, want []byte) {
	t.Helper()
	if got, e := d.Read(i); e != api.OK || !bytes.Equal(got, want) {
		t.Errorf("Read(%d): %x, %d, want %x", i, got, e, want)
	}
}

func wantStable(t *testing.T, d *disk.Disk, i int, want []byte) {
	t.Helper()
	if got, e := d.Stable(i); e != api.OK || !bytes.Equal(got, want) {
		t.Errorf("Stable(%d): %x, %d, want %x", i, got, e, want)
	}
}

func wantDirty(t *testing.T, d *disk.Disk, want ...int) {
	t.Helper()
	if got := d.Dirty(); !slices.Equal(got, want) {
		t.Errorf("Dirty: %v, want %v", got, want)
	}
}

// wantRefused: each operation comes to nothing by this error, and nothing is changed by it.
func wantRefused(t *testing.T, d *disk.Disk, want api.Errno) {
	t.Helper()
	got, e := d.Read(0)
	wantErr(t, "Read", e, want)
	if len(got) != 0 {
		t.Errorf("Read beside an error: %x", got)
	}
	wantErr(t, "Write", d.Write(0, of(99)), want)
	wantErr(t, "Flush", d.Flush(), want)
}

// P3.1

func TestNew(t *testing.T) {
	for _, blocks := range []int{math.MinInt, -api.MinBlocks, -1, 0, 1, 79, 4097, 1 << 31, math.MaxInt} {
		if d, e := disk.New(blocks); d != nil || e != api.ErrArg {
			t.Errorf("New(%d): %v, %d", blocks, d, e)
		}
	}
	for _, blocks := range []int{80, 81, 100, 4095, 4096} {
		d := device(t, blocks)
		if d.Size() != blocks || d.Ops() != 0 {
			t.Errorf("New(%d): Size %d, Ops %d", blocks, d.Size(), d.Ops())
		}
		wantDirty(t, d)
		for i := range blocks {
			wantStable(t, d, i, of(0))
			wantRead(t, d, i, of(0))
		}
		wantErr(t, "Flush", d.Flush(), api.OK)
		wantOps(t, d, blocks+1)
	}
}

func TestDevicesAreTheirOwn(t *testing.T) {
	a, b := device(t, 80), device(t, 80)
	write(t, a, 3, 1)
	flush(t, a)
	write(t, a, 4, 1)
	wantErr(t, "Fail", a.Fail(0, api.ErrIO), api.OK)
	wantErr(t, "Cut", a.Cut(1), api.OK)
	wantOps(t, b, 0)
	wantDirty(t, b)
	wantRead(t, b, 3, of(0))
	wantErr(t, "Flush", b.Flush(), api.OK)
}

func TestOpsCountsOperationsAlone(t *testing.T) {
	d := device(t, 80)
	d.Size()
	d.Ops()
	d.Dirty()
	d.Stable(0)
	d.Stable(80)
	d.Read(-1)
	d.Read(80)
	d.Write(-1, of(1))
	d.Write(80, of(1))
	d.Write(0, of(1)[:255])
	d.Write(0, nil)
	d.Fail(7, api.ErrIO)
	d.Fail(-1, api.ErrIO)
	d.Cut(9)
	d.Cut(-1)
	d.Crash(nil, 0)
	wantOps(t, d.Copy(), 0)
	wantOps(t, d, 0)
	d.Read(0)
	wantOps(t, d, 1)
	d.Write(0, of(1))
	wantOps(t, d, 2)
	d.Flush()
	wantOps(t, d, 3)
	d.Flush()
	wantOps(t, d, 4)
	d.Crash(nil, 0)
	wantOps(t, d, 4)
	d.Fail(0, api.ErrFull)
	d.Cut(1)
	d.Read(0)
	wantOps(t, d, 5)
	wantRefused(t, d, api.ErrPower)
	wantOps(t, d, 8)
	d.Crash(nil, 0)
	wantOps(t, d, 8)
}

// P3.2

func TestReadAnswersTheContent(t *testing.T) {
	for _, i := range []int{0, 1, 40, 78, 79} {
		d := device(t, 80)
		write(t, d, i, 1)
		wantRead(t, d, i, of(1))
		write(t, d, i, 2)
		wantRead(t, d, i, of(2))
		flush(t, d)
		wantRead(t, d, i, of(2))
		write(t, d, i, 3)
		wantRead(t, d, i, of(3))
		crash(t, d, nil, 0)
		wantRead(t, d, i, of(2))
		for j := range 80 {
			if j != i {
				wantRead(t, d, j, of(0))
			}
		}
	}
}

func TestReadTellsEachByte(t *testing.T) {
	d := device(t, 80)
	want := make([]byte, api.BlockSize)
	for i := range want {
		want[i] = byte(i)
	}
	wantErr(t, "Write", d.Write(9, want), api.OK)
	wantRead(t, d, 9, want)
	wantStable(t, d, 9, of(0))
	flush(t, d)
	wantRead(t, d, 9, want)
	wantStable(t, d, 9, want)
}

func TestReadOfNoBlock(t *testing.T) {
	for _, blocks := range []int{80, 81, 4096} {
		d := device(t, blocks)
		// A fault or a cut is not asked, and does not pass, where there is no operation.
		d.Fail(0, api.ErrIO)
		d.Cut(1)
		for _, i := range []int{blocks, blocks + 1, -1, math.MinInt, math.MaxInt, 1 << 32} {
			if b, e := d.Read(i); len(b) != 0 || e != api.ErrRange {
				t.Errorf("Read(%d) of %d: %x, %d", i, blocks, b, e)
			}
		}
		wantOps(t, d, 0)
		_, e := d.Read(blocks - 1)
		wantErr(t, "Read", e, api.ErrIO)
		_, e = d.Read(blocks - 1)
		wantErr(t, "Read", e, api.ErrPower)
		_, e = d.Read(blocks)
		wantErr(t, "Read", e, api.ErrRange)
		wantOps(t, d, 2)
	}
}

func TestReadAnswersNewMemory(t *testing.T) {
	d := device(t, 80)
	write(t, d, 1, 1)
	flush(t, d)
	write(t, d, 2, 2)
	for i, x := range map[int]byte{0: 0, 1: 1, 2: 2} {
		first, _ := d.Read(i)
		second, _ := d.Read(i)
		spoil(first)
		if !bytes.Equal(second, of(x)) {
			t.Errorf("block %d: two answers share memory", i)
		}
		wantRead(t, d, i, of(x))
	}
	for i := range 80 {
		if i != 1 {
			wantStable(t, d, i, of(0))
		}
	}
	b, _ := d.Read(2)
	write(t, d, 2, 3)
	flush(t, d)
	if !bytes.Equal(b, of(2)) {
		t.Error("an answer is written into by a later Write")
	}
}

// spoil writes into a list, and into the room behind its end.
func spoil(b []byte) {
	b = b[:cap(b)]
	for i := range b {
		b[i] = 0xee
	}
}

// P3.3

func TestWriteRefuses(t *testing.T) {
	d := device(t, 80)
	d.Fail(0, api.ErrFull)
	for _, x := range []struct {
		i    int
		b    []byte
		want api.Errno
	}{
		{80, of(1), api.ErrRange},
		{-1, of(1), api.ErrRange},
		{math.MaxInt, of(1), api.ErrRange},
		{math.MinInt, of(1), api.ErrRange},
		{80, nil, api.ErrRange},
		{-1, of(1)[:255], api.ErrRange},
		{0, nil, api.ErrArg},
		{0, []byte{}, api.ErrArg},
		{0, of(1)[:1], api.ErrArg},
		{0, of(1)[:255], api.ErrArg},
		{79, append(of(1), 1), api.ErrArg},
		{79, slices.Concat(of(1), of(1)), api.ErrArg},
	} {
		if got := d.Write(x.i, x.b); got != x.want {
			t.Errorf("Write(%d, %d bytes): %d, want %d", x.i, len(x.b), got, x.want)
		}
	}
	wantOps(t, d, 0)
	wantDirty(t, d)
	wantErr(t, "Write", d.Write(0, of(1)), api.ErrFull)
	d.Cut(0)
	wantErr(t, "Write of no block", d.Write(80, of(1)), api.ErrRange)
	wantErr(t, "Write of 255 bytes", d.Write(0, of(1)[:255]), api.ErrArg)
	wantErr(t, "Write", d.Write(0, of(1)), api.ErrPower)
	wantOps(t, d, 2)
	crash(t, d, []bool{true}, api.BlockSize)
	wantRead(t, d, 0, of(0))
}

func TestWriteDoesNotKeepItsList(t *testing.T) {
	d := device(t, 80)
	room := slices.Concat(of(1), of(7))
	given := slices.Clone(room)
	wantErr(t, "Write", d.Write(5, room[:api.BlockSize]), api.OK)
	read, _ := d.Read(5)
	spoil(read)
	flush(t, d)
	if !bytes.Equal(room, given) {
		t.Error("what was handed in was changed")
	}
	wantErr(t, "Write", d.Write(6, room[:api.BlockSize]), api.OK)
	spoil(room)
	wantRead(t, d, 5, of(1))
	wantRead(t, d, 6, of(1))
	wantStable(t, d, 5, of(1))
	flush(t, d)
	wantStable(t, d, 6, of(1))
}

func TestWriteTwiceAheadOfAFlush(t *testing.T) {
	d := device(t, 80)
	write(t, d, 5, 1)
	write(t, d, 5, 2)
	wantDirty(t, d, 5)
	wantRead(t, d, 5, of(2))
	wantStable(t, d, 5, of(0))
	lost, half := d.Copy(), d.Copy()
	flush(t, d)
	wantStable(t, d, 5, of(2))
	// The older content is gone: no crash brings it back.
	crash(t, lost, nil, 0)
	wantRead(t, lost, 5, of(0))
	crash(t, half, nil, 10)
	wantRead(t, half, 5, torn(10, 2, 0))
}

func TestWriteOfWhatIsStable(t *testing.T) {
	d := device(t, 80)
	write(t, d, 5, 0)
	wantDirty(t, d, 5)
}

// P3.4

func TestFlush(t *testing.T) {
	d := device(t, 80)
	wantErr(t, "Flush of nothing", d.Flush(), api.OK)
	for _, i := range []int{79, 0, 12, 7} {
		write(t, d, i, byte(i+1))
	}
	wantDirty(t, d, 0, 7, 12, 79)
	wantErr(t, "Flush", d.Flush(), api.OK)
	wantDirty(t, d)
	for i := range 80 {
		want := of(0)
		if slices.Contains([]int{79, 0, 12, 7}, i) {
			want = of(byte(i + 1))
		}
		wantStable(t, d, i, want)
		wantRead(t, d, i, want)
	}
	write(t, d, 12, 9)
	wantDirty(t, d, 12)
	wantStable(t, d, 12, of(13))
	wantErr(t, "Flush", d.Flush(), api.OK)
	wantErr(t, "Flush", d.Flush(), api.OK)
	wantStable(t, d, 12, of(9))
}

func TestDirtyRises(t *testing.T) {
	d := device(t, 4096)
	order := rand.New(rand.NewSource(1)).Perm(4096)
	for n, i := range order {
		write(t, d, i, 1)
		if n%512 == 0 {
			wantDirty(t, d, slices.Sorted(slices.Values(order[:n+1]))...)
		}
	}
	all := make([]int, 4096)
	for i := range all {
		all[i] = i
	}
	wantDirty(t, d, all...)
}

func TestDirtyAnswersNewMemory(t *testing.T) {
	d := device(t, 80)
	for i := range 5 {
		write(t, d, i, 1)
	}
	first, second := d.Dirty(), d.Dirty()
	first = first[:cap(first)]
	for i := range first {
		first[i] = 77
	}
	if !slices.Equal(second, []int{0, 1, 2, 3, 4}) {
		t.Errorf("two answers share memory: %v", second)
	}
	wantDirty(t, d, 0, 1, 2, 3, 4)
}

// P3.5

func TestFailRefuses(t *testing.T) {
	d := device(t, 80)
	for _, after := range []int{-1, math.MinInt, maxAfter + 1, math.MaxInt} {
		wantErr(t, "Fail", d.Fail(after, api.ErrIO), api.ErrArg)
		wantErr(t, "Fail", d.Fail(after, api.ErrFull), api.ErrArg)
		wantErr(t, "Fail", d.Fail(after, api.OK), api.ErrArg)
		wantErr(t, "Cut", d.Cut(after), api.ErrArg)
	}
	for e := api.Errno(-1); e <= 300; e++ {
		if e == api.ErrFull || e == api.ErrIO {
			continue
		}
		if got := d.Fail(0, e); got != api.ErrArg {
			t.Errorf("Fail(0, %d): %d", e, got)
		}
	}
	for range 3 {
		wantErr(t, "Flush", d.Flush(), api.OK)
	}
}

func TestFaultLiesOnOneOperation(t *testing.T) {
	for _, fault := range []api.Errno{api.ErrFull, api.ErrIO} {
		for after := range 9 {
			d := device(t, 80)
			flush(t, d)
			wantErr(t, "Fail", d.Fail(after, fault), api.OK)
			for n := range 12 {
				var got api.Errno
				switch n % 3 {
				case 0:
					_, got = d.Read(n)
				case 1:
					got = d.Write(n, of(1))
				case 2:
					got = d.Flush()
				}
				want := api.OK
				if n == after {
					want = fault
				}
				if got != want {
					t.Errorf("fault %d on %d, operation %d: %d", fault, after, n, got)
				}
			}
		}
	}
}

func TestFaultsBesideEachOther(t *testing.T) {
	d := device(t, 80)
	d.Fail(4, api.ErrIO)
	d.Fail(0, api.ErrFull)
	d.Fail(1, api.ErrIO)
	d.Fail(3, api.ErrFull)
	for n, want := range []api.Errno{api.ErrFull, api.ErrIO, api.OK, api.ErrFull, api.ErrIO, api.OK} {
		if got := d.Flush(); got != want {
			t.Errorf("operation %d: %d, want %d", n, got, want)
		}
	}
}

func TestFaultInAnothersPlace(t *testing.T) {
	for _, x := range [][]api.Errno{{api.ErrIO, api.ErrFull}, {api.ErrFull, api.ErrIO}, {api.ErrFull, api.ErrFull}} {
		d := device(t, 80)
		d.Fail(2, x[0])
		flush(t, d)
		// The same operation, told from nearer.
		d.Fail(1, x[1])
		wantErr(t, "Flush", d.Flush(), api.OK)
		wantErr(t, "Flush", d.Flush(), x[1])
		wantErr(t, "Flush", d.Flush(), api.OK)
	}
	d := device(t, 80)
	d.Fail(0, api.ErrIO)
	wantErr(t, "Fail", d.Fail(0, api.ErrPower), api.ErrArg)
	wantErr(t, "Flush: a refused fault takes no place", d.Flush(), api.ErrIO)
}

func TestFarFaultsAndCuts(t *testing.T) {
	d := device(t, 80)
	wantErr(t, "Fail", d.Fail(maxAfter, api.ErrIO), api.OK)
	wantErr(t, "Cut", d.Cut(maxAfter), api.OK)
	flush(t, d)
	wantErr(t, "Fail", d.Fail(maxAfter, api.ErrFull), api.OK)
	wantErr(t, "Cut", d.Cut(maxAfter), api.OK)
	for range 1000 {
		flush(t, d)
	}
	wantErr(t, "Cut", d.Cut(0), api.OK)
	wantErr(t, "Flush", d.Flush(), api.ErrPower)
}

func TestCut(t *testing.T) {
	for after := range 6 {
		d := device(t, 80)
		flush(t, d)
		wantErr(t, "Cut", d.Cut(after), api.OK)
		for range after {
			wantErr(t, "Flush ahead of the cut", d.Flush(), api.OK)
		}
		for range 3 {
			wantRefused(t, d, api.ErrPower)
		}
		wantErr(t, "Cut", d.Cut(5), api.OK)
		wantErr(t, "Flush", d.Flush(), api.ErrPower)
		// What is no operation needs no power.
		if d.Size() != 80 {
			t.Errorf("Size: %d", d.Size())
		}
		wantDirty(t, d)
		wantStable(t, d, 0, of(0))
	}
}

func TestTheEarlierCutCounts(t *testing.T) {
	for _, x := range []struct {
		cuts []int
		want int
	}{
		{[]int{3, 1}, 1},
		{[]int{1, 3}, 1},
		{[]int{2, 2}, 2},
		{[]int{9, 4, 6}, 4},
		{[]int{maxAfter, 0}, 0},
		{[]int{0, maxAfter}, 0},
	} {
		d := device(t, 80)
		for _, after := range x.cuts {
			wantErr(t, "Cut", d.Cut(after), api.OK)
		}
		for n := range x.want + 3 {
			want := api.OK
			if n >= x.want {
				want = api.ErrPower
			}
			if got := d.Flush(); got != want {
				t.Errorf("cuts %v, operation %d: %d, want %d", x.cuts, n, got, want)
			}
		}
	}
	// Which one is earlier is told by the operations, not by the numbers that were handed in.
	d := device(t, 80)
	d.Cut(3)
	flush(t, d)
	flush(t, d)
	d.Cut(2)
	flush(t, d)
	wantErr(t, "Flush", d.Flush(), api.ErrPower)
}

func TestPowerGoesAheadOfFaults(t *testing.T) {
	d := device(t, 80)
	d.Fail(0, api.ErrIO)
	d.Fail(1, api.ErrIO)
	d.Fail(2, api.ErrFull)
	d.Cut(1)
	for n, want := range []api.Errno{api.ErrIO, api.ErrPower, api.ErrPower, api.ErrPower} {
		if got := d.Flush(); got != want {
			t.Errorf("operation %d: %d, want %d", n, got, want)
		}
	}
}

// P3.6

// threeDirty is a device whose blocks 10, 20, 30 have eights that are stable and ones that are dirty; last was
// written last.
func threeDirty(t *testing.T, last int) *disk.Disk {
	t.Helper()
	d := device(t, 80)
	for _, i := range []int{10, 20, 30} {
		write(t, d, i, 8)
	}
	flush(t, d)
	for _, i := range []int{30, 10, 20, last} {
		write(t, d, i, 1)
	}
	return d
}

func TestCrash(t *testing.T) {
	for _, x := range []struct {
		last int
		keep []bool
		torn int
		want [3]int // how many bytes of the blocks 10, 20, 30 are new
	}{
		{10, nil, 0, [3]int{0, 0, 0}},
		{10, []bool{}, 7, [3]int{7, 0, 0}},
		{20, nil, 7, [3]int{0, 7, 0}},
		{30, nil, 7, [3]int{0, 0, 7}},
		{30, nil, 1, [3]int{0, 0, 1}},
		{30, nil, 255, [3]int{0, 0, 255}},
		{30, nil, 256, [3]int{0, 0, 256}},
		{30, nil, 257, [3]int{0, 0, 256}},
		{30, nil, math.MaxInt, [3]int{0, 0, 256}},
		{30, nil, -1, [3]int{0, 0, 0}},
		{30, nil, math.MinInt, [3]int{0, 0, 0}},
		{30, []bool{true}, 5, [3]int{256, 0, 5}},
		{30, []bool{true, false}, 5, [3]int{256, 0, 5}},
		{30, []bool{false, true}, 5, [3]int{0, 256, 5}},
		{30, []bool{false, false, true}, 5, [3]int{0, 0, 256}},
		{30, []bool{true, true, true}, 0, [3]int{256, 256, 256}},
		{30, []bool{true, true, true, true, true}, -9, [3]int{256, 256, 256}},
		{30, []bool{false, false, false, true, true}, 3, [3]int{0, 0, 3}},
		{10, []bool{true}, 5, [3]int{256, 0, 0}},
		{10, []bool{false, true, true}, 5, [3]int{5, 256, 256}},
		{20, []bool{true, false, true}, 300, [3]int{256, 256, 256}},
	} {
		d := threeDirty(t, x.last)
		given := slices.Clone(x.keep)
		crash(t, d, x.keep, x.torn)
		if !slices.Equal(x.keep, given) {
			t.Errorf("keep %v was changed: %v", given, x.keep)
		}
		wantDirty(t, d)
		for n, size := range x.want {
			want := torn(size, 1, 8)
			wantStable(t, d, 10*(n+1), want)
			wantRead(t, d, 10*(n+1), want)
		}
		for i := range 80 {
			if i != 10 && i != 20 && i != 30 {
				wantStable(t, d, i, of(0))
			}
		}
	}
}

func TestCrashLeavesKeepAlone(t *testing.T) {
	d := threeDirty(t, 20)
	room := []bool{true, false, true, true}
	crash(t, d, room[:1], 0)
	if !slices.Equal(room, []bool{true, false, true, true}) {
		t.Errorf("keep: %v", room)
	}
	// The room behind the list's end says nothing.
	wantRead(t, d, 30, of(8))
	clear(room)
	wantRead(t, d, 10, of(1))
}

func TestCrashWithTheLastBlockFlushed(t *testing.T) {
	d := device(t, 80)
	write(t, d, 5, 1)
	flush(t, d)
	crash(t, d, nil, 0)
	wantRead(t, d, 5, of(1))
	write(t, d, 5, 2)
	flush(t, d)
	crash(t, d, []bool{true}, 100)
	wantRead(t, d, 5, of(2))
	// Block 5 was written last once; now it is block 6 alone that may be torn.
	write(t, d, 5, 3)
	flush(t, d)
	write(t, d, 5, 4)
	write(t, d, 6, 4)
	crash(t, d, nil, 9)
	wantRead(t, d, 5, of(3))
	wantRead(t, d, 6, torn(9, 4, 0))
}

func TestCrashTearsTheBlockThatWasWrittenLast(t *testing.T) {
	// A block that was written, then another, then the first one again.
	d := device(t, 80)
	write(t, d, 5, 1)
	write(t, d, 6, 1)
	write(t, d, 5, 2)
	crash(t, d, nil, 4)
	wantRead(t, d, 5, torn(4, 2, 0))
	wantRead(t, d, 6, of(0))
	// Reading a block does not write it.
	write(t, d, 7, 1)
	write(t, d, 8, 1)
	wantRead(t, d, 7, of(1))
	crash(t, d, nil, 4)
	wantRead(t, d, 7, of(0))
	wantRead(t, d, 8, torn(4, 1, 0))
}

func TestCrashKnowsNoWriteThatCameToNothing(t *testing.T) {
	for _, power := range []bool{false, true} {
		d := device(t, 80)
		write(t, d, 6, 1)
		write(t, d, 5, 1)
		if power {
			d.Cut(0)
		} else {
			d.Fail(0, api.ErrIO)
		}
		if d.Write(6, of(2)) == api.OK {
			t.Error("Write: OK")
		}
		d.Write(80, of(2))
		d.Write(7, of(2)[:255])
		crash(t, d, nil, 4)
		wantRead(t, d, 5, torn(4, 1, 0))
		wantRead(t, d, 6, of(0))
		wantRead(t, d, 7, of(0))
	}
}

func TestCrashOnAFlushThatCameToNothing(t *testing.T) {
	d := device(t, 80)
	write(t, d, 5, 1)
	write(t, d, 6, 1)
	d.Fail(0, api.ErrIO)
	wantErr(t, "Flush", d.Flush(), api.ErrIO)
	crash(t, d, []bool{true}, 4)
	wantRead(t, d, 5, of(1))
	wantRead(t, d, 6, torn(4, 1, 0))
}

func TestCrashTurnsThePowerOn(t *testing.T) {
	d := device(t, 80)
	for after := range 6 {
		d.Fail(after, api.ErrIO)
	}
	d.Cut(3)
	crash(t, d, nil, 0)
	for range 10 {
		wantErr(t, "Flush behind a crash", d.Flush(), api.OK)
	}
	d.Cut(0)
	wantRefused(t, d, api.ErrPower)
	d.Fail(4, api.ErrFull)
	crash(t, d, nil, 0)
	for range 10 {
		wantErr(t, "Flush behind a crash", d.Flush(), api.OK)
	}
	// The old cut counts no more, though it was the earlier one; faults and cuts go on from here.
	d.Fail(0, api.ErrFull)
	d.Cut(2)
	for n, want := range []api.Errno{api.ErrFull, api.OK, api.ErrPower} {
		if got := d.Flush(); got != want {
			t.Errorf("operation %d: %d, want %d", n, got, want)
		}
	}
}

func TestCrashOfACleanDevice(t *testing.T) {
	d := device(t, 80)
	crash(t, d, []bool{true, true}, 256)
	for i := range 80 {
		wantRead(t, d, i, of(0))
	}
	// Block 0 is not taken for the one that was written last.
	write(t, d, 0, 1)
	write(t, d, 1, 1)
	crash(t, d, nil, 256)
	wantRead(t, d, 0, of(0))
	wantRead(t, d, 1, of(1))
	crash(t, d, []bool{true, true}, 256)
	wantRead(t, d, 0, of(0))
}

// P3.7

func TestStable(t *testing.T) {
	d := device(t, 80)
	for _, i := range []int{-1, 80, 81, math.MinInt, math.MaxInt} {
		if b, e := d.Stable(i); len(b) != 0 || e != api.ErrRange {
			t.Errorf("Stable(%d): %x, %d", i, b, e)
		}
	}
	write(t, d, 79, 1)
	wantStable(t, d, 79, of(0))
	flush(t, d)
	wantStable(t, d, 79, of(1))
	d.Fail(0, api.ErrIO)
	wantStable(t, d, 79, of(1))
	wantErr(t, "Flush", d.Flush(), api.ErrIO)
	d.Cut(0)
	wantStable(t, d, 79, of(1))
	wantOps(t, d, 3)
}

func TestStableAnswersNewMemory(t *testing.T) {
	d := device(t, 80)
	write(t, d, 3, 1)
	flush(t, d)
	first, _ := d.Stable(3)
	second, _ := d.Stable(3)
	spoil(first)
	if !bytes.Equal(second, of(1)) {
		t.Error("two answers share memory")
	}
	wantStable(t, d, 3, of(1))
	wantStable(t, d, 4, of(0))
	wantRead(t, d, 3, of(1))
	write(t, d, 3, 2)
	flush(t, d)
	if !bytes.Equal(second, of(1)) {
		t.Error("an answer is written into by a later Flush")
	}
}

// ready is a device with all that one can have: stable and dirty blocks, a fault and a cut ahead.
func ready(t *testing.T) *disk.Disk {
	t.Helper()
	d := device(t, 81)
	write(t, d, 1, 1)
	write(t, d, 2, 1)
	flush(t, d)
	write(t, d, 3, 2)
	write(t, d, 2, 2)
	wantErr(t, "Fail", d.Fail(1, api.ErrFull), api.OK)
	wantErr(t, "Cut", d.Cut(4), api.OK)
	return d
}

// wantReady: d is as ready's device, and goes on so.
func wantReady(t *testing.T, d *disk.Disk) {
	t.Helper()
	if d.Size() != 81 {
		t.Errorf("Size: %d", d.Size())
	}
	wantOps(t, d, 5)
	wantDirty(t, d, 2, 3)
	for i, x := range map[int]byte{0: 0, 1: 1, 2: 1, 3: 0} {
		wantStable(t, d, i, of(x))
	}
	wantRead(t, d, 2, of(2))
	wantErr(t, "the fault", d.Flush(), api.ErrFull)
	wantRead(t, d, 3, of(2))
	wantRead(t, d, 1, of(1))
	wantRefused(t, d, api.ErrPower)
	crash(t, d, nil, 6)
	wantRead(t, d, 1, of(1))
	wantRead(t, d, 2, torn(6, 2, 1))
	wantRead(t, d, 3, of(0))
}

// bustle does to d whatever can be done.
func bustle(d *disk.Disk) {
	d.Fail(0, api.ErrIO)
	d.Fail(1, api.ErrIO)
	d.Cut(2)
	d.Read(0)
	d.Write(1, of(9))
	d.Flush()
	d.Crash([]bool{true, true}, 99)
	for i := range 81 {
		d.Write(i, of(9))
	}
	d.Flush()
	d.Write(70, of(9))
}

func TestCopy(t *testing.T) {
	wantReady(t, ready(t))
	wantReady(t, ready(t).Copy())
	wantReady(t, ready(t).Copy().Copy())
}

func TestCopyAndDeviceGoTheirOwnWays(t *testing.T) {
	d := ready(t)
	c := d.Copy()
	bustle(c)
	wantReady(t, d)
	d = ready(t)
	c = d.Copy()
	bustle(d)
	wantReady(t, c)
	// Each single thing, since the many of bustle could undo each other.
	for n, do := range []func(*disk.Disk){
		func(d *disk.Disk) { d.Read(0) },
		func(d *disk.Disk) { d.Write(3, of(9)) },
		func(d *disk.Disk) { d.Write(9, of(9)) },
		func(d *disk.Disk) { d.Flush() },
		func(d *disk.Disk) { d.Fail(0, api.ErrIO) },
		func(d *disk.Disk) { d.Fail(1, api.ErrIO) },
		func(d *disk.Disk) { d.Cut(0) },
		func(d *disk.Disk) { d.Crash(nil, 0) },
		func(d *disk.Disk) { d.Crash([]bool{true, true}, 0) },
		func(d *disk.Disk) { d.Crash(nil, 200) },
		func(d *disk.Disk) { d.Read(0); d.Flush() },
	} {
		d := ready(t)
		c := d.Copy()
		do(c)
		wantReady(t, d)
		d = ready(t)
		c = d.Copy()
		do(d)
		wantReady(t, c)
		if t.Failed() {
			t.Fatalf("case %d", n)
		}
	}
}

// R4, and nil in P3.1 to P3.7

func TestNil(t *testing.T) {
	var none *disk.Disk
	for _, i := range []int{0, -1, 80, 5000} {
		if b, e := none.Read(i); len(b) != 0 || e != api.ErrNil {
			t.Errorf("Read(%d): %x, %d", i, b, e)
		}
		if b, e := none.Stable(i); len(b) != 0 || e != api.ErrNil {
			t.Errorf("Stable(%d): %x, %d", i, b, e)
		}
		wantErr(t, "Write", none.Write(i, nil), api.ErrNil)
		wantErr(t, "Write", none.Write(i, of(1)), api.ErrNil)
		wantErr(t, "Fail", none.Fail(i, api.ErrIO), api.ErrNil)
		wantErr(t, "Fail", none.Fail(i, api.OK), api.ErrNil)
		wantErr(t, "Cut", none.Cut(i), api.ErrNil)
		wantErr(t, "Crash", none.Crash([]bool{true}, i), api.ErrNil)
	}
	wantErr(t, "Flush", none.Flush(), api.ErrNil)
	wantErr(t, "Crash", none.Crash(nil, 0), api.ErrNil)
	if none.Size() != 0 || none.Ops() != 0 || len(none.Dirty()) != 0 || none.Copy() != nil {
		t.Error("nil has something")
	}
}

// The chapter's examples

func TestExamples(t *testing.T) {
	_, e := disk.New(79)
	wantErr(t, "New(79)", e, api.ErrArg)
	d := device(t, 80)
	if d.Size() != 80 {
		t.Errorf("Size: %d", d.Size())
	}
	wantErr(t, "Write(80)", d.Write(80, of(1)), api.ErrRange)
	wantErr(t, "Write of 255 bytes", d.Write(0, of(1)[:255]), api.ErrArg)

	wantErr(t, "Write(5)", d.Write(5, of(1)), api.OK)
	wantRead(t, d, 5, of(1))
	wantDirty(t, d, 5)
	wantStable(t, d, 5, of(0))
	wantOps(t, d, 2)
	wantErr(t, "Crash", d.Crash(nil, 3), api.OK)
	wantRead(t, d, 5, torn(3, 1, 0))

	d = device(t, 80)
	write(t, d, 5, 1)
	write(t, d, 2, 2)
	wantErr(t, "Crash", d.Crash([]bool{false, true}, 9), api.OK)
	wantStable(t, d, 5, of(1))
	wantStable(t, d, 2, torn(9, 2, 0))

	d = device(t, 80)
	wantErr(t, "Fail", d.Fail(1, api.ErrIO), api.OK)
	wantRead(t, d, 0, of(0))
	wantErr(t, "Flush", d.Flush(), api.ErrIO)
	wantErr(t, "Flush", d.Flush(), api.OK)
	wantErr(t, "Cut", d.Cut(0), api.OK)
	wantErr(t, "Flush", d.Flush(), api.ErrPower)
	wantErr(t, "Crash", d.Crash(nil, 0), api.OK)
	wantErr(t, "Flush", d.Flush(), api.OK)
}

// P3.8

func TestFlushedIsSafe(t *testing.T) {
	r := rand.New(rand.NewSource(2))
	for range 200 {
		d := device(t, 80)
		safe := map[int]byte{}
		for i := range 80 {
			safe[i] = byte(r.Intn(256))
			write(t, d, i, safe[i])
		}
		flush(t, d)
		for range r.Intn(30) {
			i := r.Intn(80)
			delete(safe, i)
			write(t, d, i, byte(r.Intn(256)))
		}
		if r.Intn(2) == 0 {
			d.Cut(0)
			wantRefused(t, d, api.ErrPower)
		}
		crash(t, d, randomKeep(r), r.Intn(300)-20)
		for i, x := range safe {
			wantRead(t, d, i, of(x))
		}
	}
}

func randomKeep(r *rand.Rand) []bool {
	keep := make([]bool, r.Intn(40))
	for i := range keep {
		keep[i] = r.Intn(2) == 0
	}
	return keep
}

// P3.9

func TestEitherBehindACrash(t *testing.T) {
	r := rand.New(rand.NewSource(3))
	for range 300 {
		d := device(t, 80)
		for i := range 20 {
			write(t, d, i, byte(i))
		}
		flush(t, d)
		last := 0
		for range 1 + r.Intn(20) {
			last = r.Intn(20)
			write(t, d, last, byte(100+r.Intn(50)))
		}
		older, newer := make([][]byte, 80), make([][]byte, 80)
		for i := range 80 {
			older[i], _ = d.Stable(i)
			newer[i], _ = d.Read(i)
		}
		crash(t, d, randomKeep(r), r.Intn(300)-20)
		for i := range 80 {
			got, _ := d.Read(i)
			if bytes.Equal(got, older[i]) || bytes.Equal(got, newer[i]) {
				continue
			}
			n := 0
			for n < len(got) && got[n] == newer[i][n] {
				n++
			}
			if i != last || !bytes.Equal(got[n:], older[i][n:]) {
				t.Errorf("block %d (%d was written last): %x", i, last, got)
			}
		}
	}
}

// P3.10

func TestNothingChangesNothing(t *testing.T) {
	for _, x := range []struct {
		lay  func(*disk.Disk)
		want api.Errno
	}{
		{func(d *disk.Disk) { d.Fail(0, api.ErrIO) }, api.ErrIO},
		{func(d *disk.Disk) { d.Fail(0, api.ErrFull) }, api.ErrFull},
		{func(d *disk.Disk) { d.Cut(0) }, api.ErrPower},
	} {
		for _, do := range []func(*disk.Disk) api.Errno{
			func(d *disk.Disk) api.Errno { b, e := d.Read(10); return e + api.Errno(len(b)) },
			func(d *disk.Disk) api.Errno { return d.Write(10, of(3)) },
			func(d *disk.Disk) api.Errno { return d.Write(40, of(3)) },
			func(d *disk.Disk) api.Errno { return d.Flush() },
		} {
			d := threeDirty(t, 30)
			ops := d.Ops()
			x.lay(d)
			wantErr(t, "the operation", do(d), x.want)
			wantOps(t, d, ops+1)
			wantDirty(t, d, 10, 20, 30)
			for _, i := range []int{10, 20, 30} {
				wantStable(t, d, i, of(8))
			}
			wantStable(t, d, 40, of(0))
			if x.want != api.ErrPower {
				for _, i := range []int{10, 20, 30} {
					wantRead(t, d, i, of(1))
				}
				wantRead(t, d, 40, of(0))
			}
			crash(t, d, []bool{true}, 5)
			for i, want := range map[int][]byte{10: of(1), 20: of(8), 30: torn(5, 1, 8), 40: of(0)} {
				wantRead(t, d, i, want)
			}
		}
	}
}
