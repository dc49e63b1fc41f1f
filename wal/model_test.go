package wal_test

import (
	"bytes"
	"math/rand"
	"slices"
	"testing"

	"brickyard/api"
	"brickyard/disk"
	"brickyard/wal"
)

// model is what the chapter says of a device and its log, whatever the log does: the committed pages, each by a number
// from which its bytes are made, and what else a crash may turn them into.
type model struct {
	t         *testing.T
	r         *rand.Rand
	d         *disk.Disk
	l         *wal.Log
	committed []int
	doubtful  [][]int
	used      int
	faults    map[int]api.Errno
	cutAt     int
	made      int // how many images were made
}

const never = 1 << 40

// content begins with small numbers, so that a page that is taken for what it is not is taken for something.
func content(n int) []byte {
	b := make([]byte, api.PageSize)
	if n == 0 {
		return b
	}
	for i := range b {
		b[i] = byte(n>>(i%3*8)) ^ byte(i)
	}
	copy(b, []byte{1, 0, 5, 0})
	return b
}

func TestModel(t *testing.T) {
	for seed := range int64(150) {
		r := rand.New(rand.NewSource(seed))
		blocks := []int{80, 83, 140}[r.Intn(3)]
		d, l := fresh(t, blocks)
		m := &model{t: t, r: r, d: d, l: l, committed: make([]int, blocks-kept), faults: map[int]api.Errno{}, cutAt: never}
		for range 120 {
			m.step()
			if t.Failed() {
				t.Fatalf("seed %d", seed)
			}
		}
	}
}

func (m *model) step() {
	for m.r.Intn(3) == 0 {
		m.fail()
	}
	if m.r.Intn(15) == 0 {
		m.cut()
	}
	switch m.r.Intn(10) {
	default:
		m.commit()
	case 0:
		if m.answer("Checkpoint", func() api.Errno { return m.l.Checkpoint() }) {
			m.used = 0
		}
	case 1, 2:
		m.read(m.r.Intn(len(m.committed)))
	case 3:
		m.reopen()
	case 4:
		m.crash()
	}
	if got := m.l.Used(); got != m.used {
		m.t.Errorf("Used: %d, want %d", got, m.used)
	}
}

func (m *model) cut() {
	after := m.r.Intn(150)
	m.d.Cut(after)
	m.cutAt = min(m.cutAt, m.d.Ops()+after)
}

func (m *model) fail() {
	after := m.r.Intn(1 << m.r.Intn(8))
	e := faults[m.r.Intn(2)]
	m.d.Fail(after, e)
	m.faults[m.d.Ops()+after] = e
}

// answer makes the call, and sees to it that it answers the first error that lies on its operations, or OK.
func (m *model) answer(name string, call func() api.Errno) bool {
	from := m.d.Ops()
	got := call()
	want := api.OK
	for op := from; op < m.d.Ops() && want == api.OK; op++ {
		if op >= m.cutAt {
			want = api.ErrPower
		} else if e, lies := m.faults[op]; lies {
			want = e
		}
	}
	wantErr(m.t, name, got, want)
	if got == api.OK {
		m.doubtful = nil
	}
	return got == api.OK
}

func (m *model) commit() {
	n := m.r.Intn(4)
	if m.r.Intn(6) == 0 {
		n = m.r.Intn(min(len(m.committed), api.MaxImages) + 1)
	}
	after := slices.Clone(m.committed)
	var images []api.Image
	for _, p := range m.r.Perm(len(after))[:n] {
		m.made++
		after[p] = m.made
		images = append(images, api.Image{Page: p, Bytes: content(m.made)})
	}
	if !m.answer("Commit", func() api.Errno { return m.l.Commit(images...) }) {
		m.doubtful = append(m.doubtful, after)
		return
	}
	m.committed = after
	if n > 0 {
		m.used += n + 1
		if m.used > api.LogBlocks {
			m.used = n + 1
		}
	}
}

func (m *model) read(page int) {
	var got []byte
	ok := m.answer("Read", func() (e api.Errno) { got, e = m.l.Read(page); return e })
	if want := content(m.committed[page]); ok && !bytes.Equal(got, want) {
		m.t.Errorf("Read(%d): %x, want %x", page, got, want)
	}
}

func (m *model) open() bool {
	return m.answer("Open", func() (e api.Errno) {
		l, e := wal.Open(m.d)
		if e == api.OK {
			m.l, m.used = l, 0
		}
		return e
	})
}

// reopen is an Open that no crash goes ahead of: it comes to what was committed.
func (m *model) reopen() {
	for !m.open() {
		if m.d.Ops() >= m.cutAt {
			m.crash()
			return
		}
	}
	m.look(m.committed)
}

// crash is one behind which the device is opened, with more crashes while that is cut or meets a fault.
func (m *model) crash() {
	allowed := append(slices.Clone(m.doubtful), m.committed)
	for {
		m.crashOnce()
		if m.r.Intn(2) == 0 {
			m.cut()
		}
		if m.r.Intn(4) == 0 {
			m.fail()
		}
		if m.open() {
			break
		}
	}
	m.committed = m.look(allowed...)
}

func (m *model) crashOnce() {
	keep := make([]bool, len(m.d.Dirty()))
	kept := m.r.Intn(4)
	for i := range keep {
		keep[i] = m.r.Intn(3) < kept
	}
	m.d.Crash(keep, m.r.Intn(api.BlockSize+1))
	clear(m.faults)
	m.cutAt = never
}

// look answers which of the allowed pages the device has that was just opened. It asks a copy, for which no fault and no
// cut lies ahead.
func (m *model) look(allowed ...[]int) []int {
	c := m.d.Copy()
	c.Crash(nil, 0)
	l := open(m.t, c)
	for _, a := range allowed {
		same := true
		for p, n := range a {
			b, e := l.Read(p)
			same = same && e == api.OK && bytes.Equal(b, content(n))
		}
		if same {
			return a
		}
	}
	m.t.Errorf("the pages are none of %v", allowed)
	return m.committed
}
