package btree_test

import (
	"fmt"
	"maps"
	"math/rand"
	"slices"
	"strings"
	"testing"

	"brickyard/api"
	"brickyard/btree"
	"brickyard/pager"
)

// kinds are ways to make keys, in one order with their numbers.
var kinds = []struct {
	name   string
	blocks int
	key    func(i int) string
}{
	{"short", 400, func(i int) string { return string([]byte{byte(i >> 8), byte(i)}) }},
	{"long", 1600, func(i int) string { return long(fmt.Sprintf("%04d", i)) }},
	{"long at the end", 1600, func(i int) string { return strings.Repeat("k", api.MaxKey-4) + fmt.Sprintf("%04d", i) }},
	{"of all lengths", 1000, func(i int) string { return fmt.Sprintf("%03d", i) + strings.Repeat("k", i*13%62) }},
	{"long beside short", 1200, func(i int) string {
		if i%2 == 0 {
			return long(fmt.Sprintf("%03d", i))
		}
		return fmt.Sprintf("%03d", i)
	}},
	{"many short, some long", 800, func(i int) string {
		if i%7 == 0 {
			return long(fmt.Sprintf("%03d", i))
		}
		return fmt.Sprintf("%03d", i)
	}},
}

// orders are ways to go through n numbers.
var orders = []struct {
	name string
	at   func(r *rand.Rand, n int) []int
}{
	{"rising", func(_ *rand.Rand, n int) []int { return count(n) }},
	{"falling", func(_ *rand.Rand, n int) []int {
		l := count(n)
		slices.Reverse(l)
		return l
	}},
	{"in any order", func(r *rand.Rand, n int) []int { return r.Perm(n) }},
	{"from the middle", func(_ *rand.Rand, n int) (l []int) { // of an even n
		for i := range n {
			l = append(l, n/2+(i+1)/2*(1-i%2*2))
		}
		return l
	}},
}

func count(n int) (l []int) {
	for i := range n {
		l = append(l, i)
	}
	return l
}

// P7.6, P7.7, P7.8: keys put in one order and deleted in another one, down to none; all is seen on the way.
func TestPutAndDeleteInAllOrders(t *testing.T) {
	const n = 160
	for _, kind := range kinds {
		for _, there := range orders {
			for _, away := range orders {
				t.Run(kind.name+", put "+there.name+", deleted "+away.name, func(t *testing.T) {
					t.Parallel()
					r := rand.New(rand.NewSource(int64(len(kind.name))))
					p, x := fresh(t, kind.blocks)
					want := map[string]string{}
					deepest := 0
					for at, i := range there.at(r, n) {
						k, v := kind.key(i), text(i%36)
						put(t, x, k, v)
						commit(t, p)
						want[k] = v
						if at%40 == 1 || at == 0 || at == n-1 {
							deepest = wantOnly(t, p, want).Depth
						}
					}
					if len(want) != n || deepest < 2 {
						t.Fatalf("%d keys, %d deep", len(want), deepest)
					}
					for at, i := range away.at(r, n) {
						remove(t, x, kind.key(i))
						commit(t, p)
						delete(want, kind.key(i))
						if at%40 == 1 || len(want) < 4 {
							wantOnly(t, p, want)
						}
					}
				})
			}
		}
	}
}

// A tree of so many keys that it is one node deep, two, and so on: all of these are met, on the way there and back.
func TestAllDepths(t *testing.T) {
	p, x := fresh(t, 3000)
	want := map[string]string{}
	seen := map[int]int{} // how often so deep: below 0 on the way back
	const n = 900
	last := 0
	for i := range n {
		k := long(fmt.Sprintf("%04d", i*7%n))
		put(t, x, k, text(i%33))
		want[k] = text(i % 33)
		commit(t, p)
		if top, _ := p.Root(0); top != last || i == n-1 {
			last = top
			seen[wantOnly(t, p, want).Depth]++
		}
	}
	for i := range n {
		k := long(fmt.Sprintf("%04d", i*11%n))
		remove(t, x, k)
		commit(t, p)
		delete(want, k)
		if top, _ := p.Root(0); top != last {
			last = top
			seen[-wantOnly(t, p, want).Depth]++
		}
	}
	for depth := 1; depth <= 6; depth++ {
		if seen[depth] == 0 || seen[1-depth] == 0 {
			t.Errorf("never %d deep: %v", depth, seen)
		}
	}
	wantOnly(t, p, nil)
}

// Nodes are joined as they empty: a tree of few keys has few pages, whatever it had before.
func TestJoined(t *testing.T) {
	for _, kind := range kinds {
		p, x := fresh(t, kind.blocks)
		want := map[string]string{}
		for i := range 300 {
			put(t, x, kind.key(i), "v")
			commit(t, p)
		}
		for i := range 300 {
			if i%25 == 0 {
				want[kind.key(i)] = "v"
				continue
			}
			remove(t, x, kind.key(i))
			commit(t, p)
		}
		if s := wantOnly(t, p, want); s.Nodes > len(want) {
			t.Errorf("%s: %d keys in %v", kind.name, len(want), s)
		}
	}
}

// model is a tree, and a map of what it has to have; and what it had at the last Commit.
type model struct {
	t         *testing.T
	p         *pager.Pager
	x         *btree.Tree
	has, safe map[string]string
}

func (m *model) put(k, v string) {
	m.t.Helper()
	put(m.t, m.x, k, v)
	m.has[k] = v
	wantGet(m.t, m.x, k, v)
}

func (m *model) remove(k string) {
	m.t.Helper()
	want := api.ErrNone
	if _, is := m.has[k]; is {
		want = api.OK
	}
	wantErr(m.t, "Delete", m.x.Delete(k), want)
	delete(m.has, k)
	wantNoGet(m.t, m.x, k, api.ErrNone)
}

func (m *model) next(from string) {
	m.t.Helper()
	keys := slices.Sorted(maps.Keys(m.has))
	i, _ := slices.BinarySearch(keys, from)
	if i == len(keys) {
		wantNoNext(m.t, m.x, from, api.ErrNone)
		return
	}
	wantNext(m.t, m.x, from, keys[i], m.has[keys[i]])
}

// end ends the transaction: one of five is rolled back.
func (m *model) end(r *rand.Rand) {
	m.t.Helper()
	if r.Intn(5) == 0 {
		rollback(m.t, m.p)
		m.has = maps.Clone(m.safe)
		return
	}
	commit(m.t, m.p)
	m.safe = maps.Clone(m.has)
}

// Puts, deletes and what there is between them, by the die; now more are put, now more are deleted.
func TestAgainstMap(t *testing.T) {
	for _, kind := range kinds {
		for seed := range int64(3) {
			t.Run(fmt.Sprint(kind.name, " ", seed), func(t *testing.T) {
				t.Parallel()
				r := rand.New(rand.NewSource(seed))
				p, x := fresh(t, kind.blocks)
				m := &model{t, p, x, map[string]string{}, map[string]string{}}
				for step := range 1500 {
					k := kind.key(r.Intn(200))
					switch grow := step/250%2 == 0; {
					case r.Intn(10) == 0:
						m.next(k[:r.Intn(len(k)+1)] + text(r.Intn(3)))
					case r.Intn(10) == 0:
						v, e := x.Get(k)
						if w, is := m.has[k]; v != w || is != (e == api.OK) || !is && e != api.ErrNone {
							t.Fatalf("Get: %d bytes, %d", len(v), e)
						}
					case (r.Intn(5) < 4) == grow:
						m.put(k, text(valueLength(r)))
					default:
						m.remove(k)
					}
					if t.Failed() {
						t.Fatalf("at step %d", step)
					}
					if r.Intn(3) == 0 || p.Touched() > 20 {
						m.end(r)
					}
					if step%100 == 0 {
						wantOnly(t, p, m.has)
					}
				}
				wantOnly(t, p, m.has)
			})
		}
	}
}

// valueLength is mostly that of a value in its item.
func valueLength(r *rand.Rand) int {
	switch r.Intn(12) {
	case 0:
		return r.Intn(900)
	case 1:
		return api.MaxInline + r.Intn(2)
	}
	return r.Intn(api.MaxInline + 1)
}
