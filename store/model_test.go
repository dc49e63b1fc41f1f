package store_test

import (
	"fmt"
	"math/rand"
	"slices"
	"testing"

	"brickyard/api"
	"brickyard/disk"
	"brickyard/store"
)

// model is what the chapter says of a device and its store, whatever the store does.
type model struct {
	t      *testing.T
	r      *rand.Rand
	d      *disk.Disk
	s      *store.Store
	now    state
	behind []state           // what else a crash may turn the state into: a batch that was cut short may be found whole
	faults map[int]api.Errno // by the number of the operation on which each lies
	cutAt  int
}

const never = 1 << 40

func TestModel(t *testing.T) {
	for seed := range int64(150) {
		t.Run(fmt.Sprint("seed ", seed), func(t *testing.T) {
			t.Parallel()
			r := rand.New(rand.NewSource(seed))
			d, s := fresh(t, []int{80, 90, 130, 400}[r.Intn(4)])
			m := &model{t: t, r: r, d: d, s: s, now: state{}.with(), faults: map[int]api.Errno{}, cutAt: never}
			for range 250 {
				m.step()
				if t.Failed() {
					t.FailNow()
				}
			}
			m.crash()
			clearAll(t, m.s)
			wantState(t, d, m.s, state{})
		})
	}
}

func (m *model) step() {
	if m.r.Intn(8) == 0 {
		after, e := m.r.Intn(1<<m.r.Intn(7)), faults[m.r.Intn(2)]
		for i := range 1 + m.r.Intn(4)*m.r.Intn(3) {
			m.d.Fail(after+i, e)
			m.faults[m.d.Ops()+after+i] = e
		}
	}
	if m.r.Intn(60) == 0 {
		after := m.r.Intn(100)
		m.d.Cut(after)
		m.cutAt = min(m.cutAt, m.d.Ops()+after)
	}
	switch m.r.Intn(20) {
	default:
		m.apply()
	case 0:
		m.crash()
	case 1:
		m.reopen()
	case 2:
		m.clear()
	case 3, 4, 5, 6:
		m.get()
	case 7, 8:
		m.next()
	case 9:
		m.from()
	case 10:
		m.count()
	}
}

func (m *model) space() int { return m.r.Intn(1 + m.r.Intn(api.MaxRoots)) }

func (m *model) key() string {
	k := fmt.Sprint(m.r.Intn(30))
	if m.r.Intn(3) == 0 {
		return long(k)
	}
	return k
}

func (m *model) change() api.Change {
	c := put(m.space(), m.key(), text(m.r.Intn(1<<m.r.Intn(9))))
	switch m.r.Intn(30) {
	case 0:
		c.Value = text(m.r.Intn(api.MaxValue))
	case 1, 2, 3, 4, 5, 6, 7, 8, 9, 10:
		c.Delete = true
	}
	return c
}

// met answers the error of the first fault, or of the cut, that lay on the operations from that one on; OK: none did.
func (m *model) met(from int) api.Errno {
	for n := from; n < m.d.Ops(); n++ {
		if n >= m.cutAt {
			return api.ErrPower
		}
		if e := m.faults[n]; e != api.OK {
			return e
		}
	}
	return api.OK
}

// settled holds the error against what lay on the call's operations, and answers whether the call came to its end.
func (m *model) settled(call string, from int, e api.Errno, others ...api.Errno) bool {
	if met := m.met(from); met != api.OK {
		wantErr(m.t, call, e, met)
		return false
	}
	if e != api.OK && !slices.Contains(others, e) {
		m.t.Errorf("%s: %d", call, e)
	}
	return e == api.OK
}

func (m *model) apply() {
	var batch []api.Change
	for range m.r.Intn(1 + m.r.Intn(12)) {
		batch = append(batch, m.change())
	}
	room, from := m.s.Room(), m.d.Ops()
	e := m.s.Apply(batch...)
	if m.settled("Apply", from, e, api.ErrFull, api.ErrLong) {
		m.now = m.now.with(batch...)
		if len(batch) > 0 {
			m.behind = nil
		}
		return
	}
	wantRoom(m.t, m.s, room)
	if m.met(from) != api.OK {
		m.behind = append(m.behind, m.now.with(batch...))
	}
}

func (m *model) clear() {
	if len(m.behind) > 0 {
		m.crash()
	}
	space, from := m.space(), m.d.Ops()
	if e := m.s.Clear(space); m.settled("Clear", from, e, api.ErrFull) {
		m.now = m.now.with()
		clear(m.now[space])
		return
	}
	// How far it came is told behind a crash alone, which either has the key at which it ended, or not.
	m.restart()
	got := whole(m.s)
	ahead := m.now.with()
	for len(ahead[space]) > len(got[space]) {
		delete(ahead[space], least(ahead[space]))
	}
	if !got.equals(ahead) {
		m.t.Errorf("Clear: %v, want %v", got, ahead)
	}
	m.now = got
}

func least(space map[string]string) string {
	first := ""
	for k := range space {
		if first == "" || k < first {
			first = k
		}
	}
	return first
}

func (m *model) get() {
	space, key, from := m.space(), m.key(), m.d.Ops()
	want, is := m.now[space][key]
	v, e := m.s.Get(space, key)
	if m.settled("Get", from, e, api.ErrNone) != is && m.met(from) == api.OK || v != want && e == api.OK || v != "" && e != api.OK {
		m.t.Errorf("Get(%d, %q): %q, %d, want %q", space, key, v, e, want)
	}
}

func (m *model) next() {
	space, at, from := m.space(), m.key(), m.d.Ops()
	rest := map[string]string{}
	for k, v := range m.now[space] {
		if k >= at {
			rest[k] = v
		}
	}
	k, v, e := m.s.Next(space, at)
	switch {
	case m.settled("Next", from, e, api.ErrNone):
		if k != least(rest) || v != rest[k] {
			m.t.Errorf("Next: %q, %q", k, v)
		}
	case k+v != "" || m.met(from) == api.OK && len(rest) > 0:
		m.t.Errorf("Next: %q, %q, %d", k, v, e)
	}
}

func (m *model) from() {
	space, from := m.space(), m.d.Ops()
	rest := m.now.with()[space]
	for k, v := range m.s.From(space, "") {
		if k != least(rest) || v != rest[k] {
			m.t.Errorf("From: %q, %q", k, v)
			return
		}
		delete(rest, k)
	}
	if m.met(from) == api.OK && len(rest) > 0 {
		m.t.Errorf("From: %d keys are left", len(rest))
	}
}

func (m *model) count() {
	space, from := m.space(), m.d.Ops()
	n, e := m.s.Count(space)
	if m.settled("Count", from, e) && n != len(m.now[space]) || e != api.OK && n != 0 {
		m.t.Errorf("Count: %d, %d, want %d", n, e, len(m.now[space]))
	}
}

// crash has any crash, and opens the device anew.
func (m *model) crash() {
	m.restart()
	got := whole(m.s)
	if !got.equals(m.now) && !slices.ContainsFunc(m.behind, got.equals) {
		m.t.Errorf("a crash: %v, want %v or %v", got, m.now, m.behind)
	}
	m.now, m.behind = got, nil
	wantState(m.t, m.d, m.s, m.now)
}

func (m *model) restart() {
	var keep []bool
	for range m.d.Dirty() {
		keep = append(keep, m.r.Intn(2) == 0)
	}
	m.d.Crash(keep, m.r.Intn(260))
	clear(m.faults)
	m.cutAt = never
	m.s = open(m.t, m.d)
}

// reopen opens the device anew without a crash, if nothing ends that.
func (m *model) reopen() {
	from := m.d.Ops()
	s, e := store.Open(m.d)
	if !m.settled("Open", from, e) {
		m.crash()
		return
	}
	m.s = s
	got := whole(s)
	if m.met(from) != api.OK {
		m.crash()
		return
	}
	if !got.equals(m.now) && !slices.ContainsFunc(m.behind, got.equals) {
		m.t.Errorf("opened: %v, want %v or %v", got, m.now, m.behind)
	}
	m.now, m.behind = got, nil
}
