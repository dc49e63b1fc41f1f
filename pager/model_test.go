package pager_test

import (
	"bytes"
	"maps"
	"math/rand"
	"slices"
	"testing"

	"brickyard/api"
	"brickyard/disk"
	"brickyard/pager"
)

// book is the chapter's state, in the plainest form.
type book struct {
	has   map[int]byte // of each allotted page the byte that all of it is
	stack []int
	ever  int
	roots [api.MaxRoots]int
}

func (b book) copied() book {
	b.has, b.stack = maps.Clone(b.has), slices.Clone(b.stack)
	return b
}

// model is what the chapter says of a device and its pager, whatever the pager does.
type model struct {
	t         *testing.T
	r         *rand.Rand
	d         *disk.Disk
	p         *pager.Pager
	now       book
	committed book
	doubtful  []book // what else a crash may turn the committed state into
	touched   map[int]bool
	faults    map[int]api.Errno
	cutAt     int
}

const never = 1 << 40

func TestModel(t *testing.T) {
	for seed := range int64(120) {
		r := rand.New(rand.NewSource(seed))
		d, p := fresh(t, []int{80, 83, 130, 200}[r.Intn(4)])
		m := &model{t: t, r: r, d: d, p: p, faults: map[int]api.Errno{}, cutAt: never, touched: map[int]bool{}}
		m.committed.has = map[int]byte{}
		m.now = m.committed.copied()
		for range 400 {
			m.step()
			if t.Failed() {
				t.Fatalf("seed %d", seed)
			}
		}
	}
}

func (m *model) step() {
	if m.r.Intn(6) == 0 {
		after, e := m.r.Intn(1<<m.r.Intn(8)), faults[m.r.Intn(2)]
		m.d.Fail(after, e)
		m.faults[m.d.Ops()+after] = e
	}
	if m.r.Intn(60) == 0 {
		after := m.r.Intn(150)
		m.d.Cut(after)
		m.cutAt = min(m.cutAt, m.d.Ops()+after)
	}
	switch m.r.Intn(40) {
	default:
		m.put(m.page())
	case 0:
		m.crash()
	case 1:
		m.reopen()
	case 2, 3, 4:
		m.commit()
	case 5:
		m.rollback()
	case 6, 7, 8, 9:
		m.get(m.page())
	case 10, 11, 12, 13, 14, 15, 16, 17, 18, 19, 20:
		m.allot()
	case 21, 22, 23, 24, 25, 26, 27:
		m.drop(m.page())
	case 28, 29, 30:
		m.setRoot(m.r.Intn(api.MaxRoots+2)-1, m.page())
	}
	m.counts()
}

// page is most often one that was allotted.
func (m *model) page() int {
	if m.r.Intn(8) == 0 {
		return m.r.Intn(m.size()+4) - 2
	}
	return 1 + m.r.Intn(m.now.ever+1)
}

func (m *model) size() int { return m.d.Size() - kept }

func (m *model) counts() {
	wantCount(m.t, "Size", m.p.Size(), m.size())
	wantCount(m.t, "Free", m.p.Free(), m.size()-len(m.now.has))
	wantCount(m.t, "Touched", m.p.Touched(), len(m.touched))
	for i, want := range m.now.roots {
		wantRoot(m.t, m.p, i, want)
	}
}

// answer makes the call: what is wrong with it goes ahead of the first error that lies on its operations.
func (m *model) answer(name string, wrong api.Errno, call func() api.Errno) bool {
	from := m.d.Ops()
	got := call()
	want := wrong
	for op := from; op < m.d.Ops() && want == api.OK; op++ {
		if op >= m.cutAt {
			want = api.ErrPower
		} else if e, lies := m.faults[op]; lies {
			want = e
		}
	}
	wantErr(m.t, name, got, want)
	return got == api.OK
}

func (m *model) wrongPage(page int) api.Errno {
	_, has := m.now.has[page]
	switch {
	case page < 1 || page > m.size():
		return api.ErrRange
	case !has:
		return api.ErrNone
	}
	return api.OK
}

func (m *model) wrongTouch(page int) api.Errno {
	if !m.touched[page] && len(m.touched) == api.MaxTouch {
		return api.ErrLong
	}
	return api.OK
}

func first(errs ...api.Errno) api.Errno {
	for _, e := range errs {
		if e != api.OK {
			return e
		}
	}
	return api.OK
}

func (m *model) get(page int) {
	var got []byte
	ok := m.answer("Get", m.wrongPage(page), func() (e api.Errno) { got, e = m.p.Get(page); return e })
	if ok && !bytes.Equal(got, of(m.now.has[page])) || !ok && len(got) > 0 {
		m.t.Errorf("Get(%d): %x", page, got)
	}
}

func (m *model) put(page int) {
	b := of(byte(m.r.Intn(256)))
	size := api.OK
	if m.r.Intn(10) == 0 {
		b, size = b[:m.r.Intn(api.PageSize)], api.ErrArg
	}
	wrong := first(m.wrongPage(page), size, m.wrongTouch(page))
	if m.answer("Put", wrong, func() api.Errno { return m.p.Put(page, b) }) {
		m.now.has[page] = b[0]
		m.touched[page] = true
	}
}

func (m *model) allot() {
	page, full := m.now.ever+1, api.OK
	if n := len(m.now.stack); n > 0 {
		page = m.now.stack[n-1]
	} else if page > m.size() {
		full = api.ErrFull
	}
	got := 0
	if !m.answer("Allot", first(full, m.wrongTouch(page)), func() (e api.Errno) { got, e = m.p.Allot(); return e }) {
		wantCount(m.t, "Allot", got, 0)
		return
	}
	wantCount(m.t, "Allot", got, page)
	if n := len(m.now.stack); n > 0 {
		m.now.stack = m.now.stack[:n-1]
	} else {
		m.now.ever++
	}
	m.now.has[page] = 0
	m.touched[page] = true
}

func (m *model) drop(page int) {
	wrong := first(m.wrongPage(page), m.wrongTouch(page))
	if m.answer("Drop", wrong, func() api.Errno { return m.p.Drop(page) }) {
		delete(m.now.has, page)
		m.now.stack = append(m.now.stack, page)
		m.touched[page] = true
	}
}

func (m *model) setRoot(i, page int) {
	wrong := m.wrongPage(page)
	if page == 0 {
		wrong = api.OK
	}
	if i < 0 || i >= api.MaxRoots {
		wrong = api.ErrRange
	}
	if m.answer("SetRoot", wrong, func() api.Errno { return m.p.SetRoot(i, page) }) {
		m.now.roots[i] = page
	}
}

func (m *model) commit() {
	if m.answer("Commit", api.OK, m.p.Commit) {
		m.committed = m.now.copied()
		m.touched = map[int]bool{}
		m.doubtful = nil
	} else {
		m.doubtful = append(m.doubtful, m.now.copied())
	}
}

func (m *model) rollback() {
	if m.answer("Rollback", api.OK, m.p.Rollback) {
		m.ended(m.committed)
	}
}

// ended says that there is no transaction any more, and which state it is.
func (m *model) ended(b book) {
	m.committed = b
	m.now = b.copied()
	m.touched = map[int]bool{}
	m.doubtful = nil
}

// reopen opens the device without a crash. If that fails the old pager is over, so that it is opened again till it is.
func (m *model) reopen() {
	for {
		ok := m.answer("Open", api.OK, func() api.Errno {
			p, e := pager.Open(m.d)
			if (p == nil) != (e != api.OK) {
				m.t.Errorf("Open: %v, %d", p, e)
			}
			m.p = p
			return e
		})
		if ok {
			break
		}
		if m.d.Ops() >= m.cutAt {
			m.crash()
			return
		}
	}
	m.ended(m.committed)
	m.look(m.committed)
}

func (m *model) crash() {
	keep := make([]bool, len(m.d.Dirty()))
	much := m.r.Intn(4)
	for i := range keep {
		keep[i] = m.r.Intn(3) < much
	}
	m.d.Crash(keep, m.r.Intn(api.BlockSize+2)-1)
	m.faults, m.cutAt = map[int]api.Errno{}, never
	m.p = open(m.t, m.d)
	for _, b := range append(m.doubtful, m.committed) {
		if m.matches(b) {
			m.ended(b)
			return
		}
	}
	m.t.Errorf("none of the %d states that may be", 1+len(m.doubtful))
}

// matches asks a pager of a copy: the pages, the roots, and the order in which free pages are allotted.
func (m *model) matches(b book) bool {
	d := m.d.Copy()
	d.Crash(nil, 0)
	p := open(m.t, d)
	for page := 1; page <= p.Size(); page++ {
		x, has := b.has[page]
		got, e := p.Get(page)
		if has != (e == api.OK) || has && !bytes.Equal(got, of(x)) {
			return false
		}
	}
	for i, want := range b.roots {
		if got, _ := p.Root(i); got != want {
			return false
		}
	}
	order := slices.Clone(b.stack)
	slices.Reverse(order)
	for page := b.ever + 1; page <= p.Size(); page++ {
		order = append(order, page)
	}
	for _, want := range order {
		if p.Touched() == api.MaxTouch {
			commit(m.t, p)
		}
		if got, e := p.Allot(); got != want || e != api.OK {
			return false
		}
	}
	return p.Free() == 0
}

func (m *model) look(b book) {
	if !m.matches(b) {
		m.t.Error("it is not the committed state")
	}
}
