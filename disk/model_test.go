package disk_test

import (
	"bytes"
	"math/rand"
	"slices"
	"testing"

	"brickyard/api"
	"brickyard/disk"
)

// model is the chapter's device told by its history: each block's content is worked out from what was written,
// and when an operation comes to nothing from all faults and cuts that were ever laid.
type model struct {
	blocks int
	ops    int
	writes []written // those that did something, behind the last flush or crash
	stable map[int][]byte
	faults []laid
	cuts   []int
}

type written struct {
	i int
	b []byte
}

type laid struct {
	at int
	e  api.Errno
}

func (m *model) operation() api.Errno {
	n := m.ops
	m.ops++
	for _, at := range m.cuts {
		if n >= at {
			return api.ErrPower
		}
	}
	for _, f := range slices.Backward(m.faults) {
		if f.at == n {
			return f.e
		}
	}
	return api.OK
}

func (m *model) onDevice(i int) []byte {
	if b, ok := m.stable[i]; ok {
		return b
	}
	return make([]byte, api.BlockSize)
}

func (m *model) content(i int) []byte {
	for _, w := range slices.Backward(m.writes) {
		if w.i == i {
			return w.b
		}
	}
	return m.onDevice(i)
}

func (m *model) dirty() []int {
	var all []int
	for _, w := range m.writes {
		all = append(all, w.i)
	}
	slices.Sort(all)
	return slices.Compact(all)
}

func (m *model) read(i int) ([]byte, api.Errno) {
	if i < 0 || i >= m.blocks {
		return nil, api.ErrRange
	}
	if e := m.operation(); e != api.OK {
		return nil, e
	}
	return m.content(i), api.OK
}

func (m *model) write(i int, b []byte) api.Errno {
	if i < 0 || i >= m.blocks {
		return api.ErrRange
	}
	if len(b) != api.BlockSize {
		return api.ErrArg
	}
	if e := m.operation(); e != api.OK {
		return e
	}
	m.writes = append(m.writes, written{i, slices.Clone(b)})
	return api.OK
}

func (m *model) flush() api.Errno {
	if e := m.operation(); e != api.OK {
		return e
	}
	for _, w := range m.writes {
		m.stable[w.i] = w.b
	}
	m.writes = nil
	return api.OK
}

func (m *model) crash(keep []bool, torn int) {
	next := map[int][]byte{}
	for n, i := range m.dirty() {
		switch {
		case n < len(keep) && keep[n]:
			next[i] = m.content(i)
		case m.writes[len(m.writes)-1].i == i:
			b := slices.Clone(m.onDevice(i))
			for k := range b {
				if k < torn {
					b[k] = m.content(i)[k]
				}
			}
			next[i] = b
		}
	}
	for i, b := range next {
		m.stable[i] = b
	}
	m.writes, m.faults, m.cuts = nil, nil, nil
}

func (m *model) copy() *model {
	c := &model{blocks: m.blocks, ops: m.ops, stable: map[int][]byte{}}
	for i, b := range m.stable {
		c.stable[i] = b
	}
	c.writes = slices.Clone(m.writes)
	c.faults = slices.Clone(m.faults)
	c.cuts = slices.Clone(m.cuts)
	return c
}

// pair is a device and its model, which go one way.
type pair struct {
	d *disk.Disk
	m *model
}

// step does one thing, by chance, to both; crashes are rare, so that much is dirty when one comes.
func (p pair) step(t *testing.T, r *rand.Rand) {
	t.Helper()
	i := r.Intn(14) - 1
	if r.Intn(10) == 0 {
		i = p.m.blocks - 1 + r.Intn(2)
	}
	switch r.Intn(20) {
	case 0, 1, 2, 3, 4:
		got, e := p.d.Read(i)
		want, w := p.m.read(i)
		if e != w || !bytes.Equal(got, want) {
			t.Fatalf("Read(%d): %x, %d, want %x, %d", i, got, e, want, w)
		}
	case 5, 6, 7, 8, 9, 10, 11:
		b := make([]byte, api.BlockSize)
		r.Read(b)
		if r.Intn(20) == 0 {
			b = b[:r.Intn(api.BlockSize)]
		}
		e, w := p.d.Write(i, b), p.m.write(i, b)
		wantErr(t, "Write", e, w)
		clear(b)
	case 12, 13:
		e, w := p.d.Flush(), p.m.flush()
		wantErr(t, "Flush", e, w)
	case 14, 15, 16:
		after := r.Intn(12)
		fault := []api.Errno{api.ErrFull, api.ErrIO}[r.Intn(2)]
		wantErr(t, "Fail", p.d.Fail(after, fault), api.OK)
		p.m.faults = append(p.m.faults, laid{p.m.ops + after, fault})
	case 17:
		after := r.Intn(30)
		wantErr(t, "Cut", p.d.Cut(after), api.OK)
		p.m.cuts = append(p.m.cuts, p.m.ops+after)
	case 18:
		keep, torn := randomKeep(r), r.Intn(300)-20
		wantErr(t, "Crash", p.d.Crash(keep, torn), api.OK)
		p.m.crash(keep, torn)
	}
}

func (p pair) hold(t *testing.T) {
	t.Helper()
	wantOps(t, p.d, p.m.ops)
	wantDirty(t, p.d, p.m.dirty()...)
	for i := range p.m.blocks {
		wantStable(t, p.d, i, p.m.onDevice(i))
	}
}

// TestAgainstTheModel is of P3.1 to P3.10 together: many ways by chance, with copies that go their own.
func TestAgainstTheModel(t *testing.T) {
	for seed := range int64(40) {
		r := rand.New(rand.NewSource(seed))
		all := []pair{{device(t, 80), &model{blocks: 80, stable: map[int][]byte{}}}}
		for range 500 {
			p := all[r.Intn(len(all))]
			p.step(t, r)
			if len(all) < 4 && r.Intn(100) == 0 {
				all = append(all, pair{p.d.Copy(), p.m.copy()})
			}
			if r.Intn(10) == 0 {
				for _, p := range all {
					p.hold(t)
				}
			}
			if t.Failed() {
				t.Fatalf("seed %d", seed)
			}
		}
	}
}
