package tree_test

import (
	"fmt"
	"maps"
	"math/rand"
	"slices"
	"strings"
	"testing"

	"brickyard/api"
	"brickyard/path"
	"brickyard/tree"
)

// model is the words: a tree's files, and the paths of all its changes from its making on.
type model struct {
	files   map[string]string
	changes []string
}

func (m *model) copy() *model { return &model{maps.Clone(m.files), slices.Clone(m.changes)} }

func (m *model) read(p string) (string, api.Errno) {
	if !path.Is(p) {
		return "", api.ErrArg
	}
	s, is := m.files[p]
	if !is {
		return "", api.ErrNone
	}
	return s, api.OK
}

func (m *model) write(p, s string) api.Errno {
	was, e := m.read(p)
	switch {
	case e == api.ErrArg:
		return e
	case len(s) > 4096:
		return api.ErrLong
	case e == api.ErrNone && len(m.files) == 256:
		return api.ErrFull
	case e == api.ErrNone || was != s:
		m.changes = append(m.changes, p)
	}
	m.files[p] = s
	return api.OK
}

func (m *model) remove(p string) api.Errno {
	_, e := m.read(p)
	if e == api.OK {
		delete(m.files, p)
		m.changes = append(m.changes, p)
	}
	return e
}

func (m *model) list(prefix string) []string {
	var l []string
	for _, p := range slices.Sorted(maps.Keys(m.files)) {
		if strings.HasPrefix(p, prefix) {
			l = append(l, p)
		}
	}
	return l
}

func (m *model) since(mark int) ([]string, bool) {
	if mark < 0 || mark > len(m.changes) || len(m.changes)-mark > 32 {
		return nil, false
	}
	each := map[string]int{}
	for _, p := range m.changes[mark:] {
		each[p]++
	}
	return slices.Sorted(maps.Keys(each)), true
}

// pair is a tree, what it must be, and what somebody knew of it at an earlier mark.
type pair struct {
	tree *tree.Tree
	want *model
	knew at
}

func (p *pair) copy() *pair {
	return &pair{p.tree.Copy(), p.want.copy(), at{p.knew.mark, maps.Clone(p.knew.files)}}
}

// play is a long row of random calls on several trees, copied of each other.
type play struct {
	t     *testing.T
	r     *rand.Rand
	pairs []*pair
	names int // how many paths are written and removed
}

func TestModel(t *testing.T) {
	for seed := range int64(60) {
		t.Run(fmt.Sprint("seed ", seed), func(t *testing.T) {
			t.Parallel()
			r := rand.New(rand.NewSource(seed))
			names := []int{1, 3, 10, 40, 600}[seed%5]
			first := &pair{tree.New(), &model{files: map[string]string{}}, at{files: map[string]string{}}}
			if seed%2 == 0 {
				first.tree = &tree.Tree{}
			}
			y := &play{t, r, []*pair{first}, names}
			for range 3000 {
				y.step()
				if t.Failed() {
					t.FailNow()
				}
			}
			for _, p := range y.pairs {
				y.whole(p)
			}
		})
	}
}

// path is mostly one of the names, seldom no path at all.
func (y *play) path() string {
	if y.r.Intn(30) == 0 {
		return noPaths()[y.r.Intn(len(noPaths()))]
	}
	n := y.r.Intn(y.names)
	return []string{"a", "a/b", "a.", "b-", ""}[n%5] + fmt.Sprint(n)
}

func (y *play) content() string {
	switch y.r.Intn(20) {
	case 0:
		return text(4094 + y.r.Intn(5))
	case 1:
		return text(y.r.Intn(5000))
	}
	return text(y.r.Intn(3))
}

func (y *play) mark(p *pair) int {
	switch y.r.Intn(8) {
	case 0:
		return noMarks()[y.r.Intn(len(noMarks()))]
	case 1:
		return y.r.Intn(len(p.want.changes) + 2)
	}
	return len(p.want.changes) - y.r.Intn(36) + 1
}

func (y *play) prefix() string {
	p := y.path()
	return p[:y.r.Intn(min(len(p), 6)+1)]
}

func (y *play) step() {
	p := y.pairs[y.r.Intn(len(y.pairs))]
	switch y.r.Intn(20) {
	case 0:
		prefix := y.prefix()
		wantList(y.t, p.tree, prefix, p.want.list(prefix)...)
	case 1, 2, 3:
		y.since(p)
	case 4, 5, 6:
		name := y.path()
		s, e := p.tree.Read(name)
		if want, is := p.want.read(name); s != want || e != is {
			y.t.Errorf("Read(%q): %d bytes, %d, want %d bytes, %d", name, len(s), e, len(want), is)
		}
	case 7, 8, 9:
		name := y.path()
		wantRemove(y.t, p.tree, name, p.want.remove(name))
	case 10:
		y.knows(p)
	case 11:
		if y.r.Intn(30) == 0 {
			y.whole(p)
			y.fork(p)
		}
	default:
		name, s := y.path(), y.content()
		wantWrite(y.t, p.tree, name, s, p.want.write(name, s))
	}
	wantLen(y.t, p.tree, len(p.want.files))
	wantMark(y.t, p.tree, len(p.want.changes))
}

func (y *play) since(p *pair) {
	mark := y.mark(p)
	if l, ok := p.want.since(mark); ok {
		wantSince(y.t, p.tree, mark, l...)
	} else {
		wantNoSince(y.t, p.tree, mark)
	}
}

// knows holds what is known, brought up to now, against what there is (P10.6).
func (y *play) knows(p *pair) {
	far := len(p.want.changes) - p.knew.mark
	if ok := p.knew.renew(y.t, p.tree); ok != (far <= 32) {
		y.t.Errorf("%d changes behind: %v", far, ok)
	} else if ok && !maps.Equal(p.knew.files, p.want.files) {
		y.t.Errorf("%d changes behind, read anew: %d files, there are %d", far, len(p.knew.files), len(p.want.files))
	}
	p.knew = at{len(p.want.changes), maps.Clone(p.want.files)}
}

func (y *play) whole(p *pair) {
	if got := files(y.t, p.tree); !maps.Equal(got, p.want.files) {
		y.t.Errorf("the files are %d, want %d, or other ones", len(got), len(p.want.files))
	}
	for mark := len(p.want.changes) - 34; mark <= len(p.want.changes)+2; mark++ {
		l, ok := p.tree.Since(mark)
		if want, is := p.want.since(mark); ok != is || !slices.Equal(l, want) {
			y.t.Errorf("Since(%d) at %d: %q, %v, want %q, %v", mark, len(p.want.changes), l, ok, want, is)
		}
	}
}

// fork puts a copy beside the others, or in the place of one of them.
func (y *play) fork(p *pair) {
	c := p.copy()
	if len(y.pairs) < 4 {
		y.pairs = append(y.pairs, c)
		return
	}
	y.pairs[y.r.Intn(len(y.pairs))] = c
}
