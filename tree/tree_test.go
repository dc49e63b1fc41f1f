package tree_test

import (
	"fmt"
	"math"
	"slices"
	"strings"
	"testing"

	"brickyard/api"
	"brickyard/tree"
)

func times(n int, s string) string { return strings.Repeat(s, n) }

// text is n bytes, which tell where in it they stand.
func text(n int) string {
	b := make([]byte, n)
	for i := range b {
		b[i] = byte(i*7 + i/251 + n)
	}
	return string(b)
}

// noPaths are texts that are no paths.
func noPaths() []string {
	return []string{
		"", "A", "a/B", "/", "/a", "a/", "a//b", ".", "..", "a/.", "../a", "a/../b", " ", "a b", "a\n", "\x00", "\xff", "a\x00", "é", "%", "*", "a:b", "~",
		times(33, "a"), "a/" + times(33, "b"), times(30, "a/") + "b", times(28, "a") + "/" + times(32, "b"), times(5000, "a"), times(5000, "a/"),
	}
}

// somePaths are paths of all kinds, the longest ones too.
func somePaths() []string {
	return []string{"a", "a/b", "a/b/c", "0", "-", "_", "...", ".a", "a.c", "a-b", "z/0_9/x.o", times(32, "a"), times(27, "a") + "/" + times(32, "b"), times(29, "a/") + "bc"}
}

// noMarks are numbers that are no mark of any tree here.
func noMarks() []int {
	return []int{-1, -2, -31, -32, -33, -1 << 31, math.MinInt, math.MinInt + 1, math.MinInt + 32, 1 << 31, math.MaxInt, math.MaxInt - 1}
}

func wantErr(t *testing.T, call string, got, want api.Errno) {
	t.Helper()
	if got != want {
		t.Errorf("%.100s: %d, want %d", call, got, want)
	}
}

func wantWrite(t *testing.T, x *tree.Tree, p, s string, want api.Errno) {
	t.Helper()
	wantErr(t, fmt.Sprintf("Write(%q, %d bytes)", p, len(s)), x.Write(p, s), want)
}

func wantRemove(t *testing.T, x *tree.Tree, p string, want api.Errno) {
	t.Helper()
	wantErr(t, fmt.Sprintf("Remove(%q)", p), x.Remove(p), want)
}

func wantRead(t *testing.T, x *tree.Tree, p, want string) {
	t.Helper()
	if s, e := x.Read(p); s != want || e != api.OK {
		t.Errorf("Read(%q): %.60q, %d, want %.60q", p, s, e, want)
	}
}

func wantNoRead(t *testing.T, x *tree.Tree, p string, want api.Errno) {
	t.Helper()
	if s, e := x.Read(p); s != "" || e != want {
		t.Errorf("Read(%.100q): %.60q, %d, want %d", p, s, e, want)
	}
}

func wantList(t *testing.T, x *tree.Tree, prefix string, want ...string) {
	t.Helper()
	if l := slices.Collect(x.List(prefix)); !slices.Equal(l, want) {
		t.Errorf("List(%.100q): %q, want %q", prefix, l, want)
	}
}

func wantSince(t *testing.T, x *tree.Tree, mark int, want ...string) {
	t.Helper()
	if l, ok := x.Since(mark); !ok || !slices.Equal(l, want) {
		t.Errorf("Since(%d) at %d: %q, %v, want %q", mark, x.Mark(), l, ok, want)
	}
}

func wantNoSince(t *testing.T, x *tree.Tree, mark int) {
	t.Helper()
	if l, ok := x.Since(mark); ok || len(l) > 0 {
		t.Errorf("Since(%d) at %d: %q, %v", mark, x.Mark(), l, ok)
	}
}

func wantMark(t *testing.T, x *tree.Tree, want int) {
	t.Helper()
	if n := x.Mark(); n != want {
		t.Errorf("Mark: %d, want %d", n, want)
	}
}

func wantLen(t *testing.T, x *tree.Tree, want int) {
	t.Helper()
	if n := x.Len(); n != want {
		t.Errorf("Len: %d, want %d", n, want)
	}
}

// files are all that a tree tells of its files.
func files(t *testing.T, x *tree.Tree) map[string]string {
	t.Helper()
	all := map[string]string{}
	for p := range x.List("") {
		s, e := x.Read(p)
		if e != api.OK {
			t.Errorf("Read(%q) of what List told: %d", p, e)
		}
		all[p] = s
	}
	if x.Len() != len(all) {
		t.Errorf("Len: %d, List: %d", x.Len(), len(all))
	}
	return all
}

// told is all that a tree tells, as a text.
func told(t *testing.T, x *tree.Tree) string {
	t.Helper()
	s := fmt.Sprintf("%q %d", files(t, x), x.Mark())
	for mark := x.Mark() - api.JournalLen - 2; mark <= x.Mark()+1; mark++ {
		l, ok := x.Since(mark)
		s += fmt.Sprintf(" %q %v", l, ok)
	}
	return s
}

// wantSame: whatever the calls do, the tree tells what it told.
func wantSame(t *testing.T, x *tree.Tree, calls func()) {
	t.Helper()
	was := told(t, x)
	calls()
	if is := told(t, x); is != was {
		t.Errorf("it told %.400s, and tells %.400s", was, is)
	}
}

// wantEmpty: no files, no changes.
func wantEmpty(t *testing.T, x *tree.Tree) {
	t.Helper()
	wantLen(t, x, 0)
	wantMark(t, x, 0)
	wantList(t, x, "")
	wantNoRead(t, x, "a", api.ErrNone)
	wantRemove(t, x, "a", api.ErrNone)
	wantSince(t, x, 0)
	wantNoSince(t, x, 1)
	wantNoSince(t, x, -1)
}

// full is a tree of MaxFiles files, f0 to f255, each with its own path as its content.
func full(t *testing.T) *tree.Tree {
	t.Helper()
	x := tree.New()
	for i := range api.MaxFiles {
		p := fmt.Sprint("f", i)
		wantWrite(t, x, p, p, api.OK)
	}
	wantLen(t, x, api.MaxFiles)
	return x
}

// The chapter's examples, one behind the other.
func TestExamples(t *testing.T) {
	x := tree.New()
	wantNoRead(t, x, "a", api.ErrNone)
	wantWrite(t, x, "a", "x", api.OK)
	wantRead(t, x, "a", "x")
	wantMark(t, x, 1)

	wantWrite(t, x, "a", "x", api.OK)
	wantMark(t, x, 1)
	wantWrite(t, x, "b", "y", api.OK)
	wantSince(t, x, 1, "b")
	wantSince(t, x, 0, "a", "b")
	wantNoSince(t, x, 3)

	wantRemove(t, x, "a", api.OK)
	wantRemove(t, x, "a", api.ErrNone)
	wantNoRead(t, x, "A", api.ErrArg)
	wantList(t, x, "", "b")
	wantLen(t, x, 1)

	mark := x.Mark()
	for i := range api.JournalLen {
		wantWrite(t, x, "c", fmt.Sprint(i), api.OK)
	}
	wantSince(t, x, mark, "c")
	wantWrite(t, x, "c", "", api.OK)
	wantNoSince(t, x, mark)
}

// P10.1

func TestNew(t *testing.T) {
	x := tree.New()
	if x == nil {
		t.Fatal("New answers nil")
	}
	wantEmpty(t, x)
	y := tree.New()
	wantWrite(t, x, "a", "x", api.OK)
	wantEmpty(t, y)
	wantEmpty(t, tree.New())
}

// R4

func TestNil(t *testing.T) {
	var x *tree.Tree
	for _, p := range append(noPaths(), somePaths()...) {
		wantNoRead(t, x, p, api.ErrNil)
		wantWrite(t, x, p, "x", api.ErrNil)
		wantWrite(t, x, p, text(4097), api.ErrNil)
		wantRemove(t, x, p, api.ErrNil)
		wantList(t, x, p)
	}
	for range x.List("") {
		t.Error("a nil tree tells a path")
	}
	wantLen(t, x, 0)
	wantMark(t, x, 0)
	for _, mark := range append(noMarks(), 0, 1, 32, 33) {
		wantNoSince(t, x, mark)
	}
	if x.Copy() != nil {
		t.Error("a copy of nil is not nil")
	}
}

// The zero Tree is one without files, and without changes: each call may be the first one.
func TestZero(t *testing.T) {
	for name, first := range map[string]func(t *testing.T, x *tree.Tree){
		"nothing": func(t *testing.T, x *tree.Tree) {},
		"Read":    func(t *testing.T, x *tree.Tree) { wantNoRead(t, x, "a", api.ErrNone) },
		"Remove":  func(t *testing.T, x *tree.Tree) { wantRemove(t, x, "a", api.ErrNone) },
		"wrong":   func(t *testing.T, x *tree.Tree) { wantWrite(t, x, "A", "x", api.ErrArg) },
		"long":    func(t *testing.T, x *tree.Tree) { wantWrite(t, x, "a", text(4097), api.ErrLong) },
		"List":    func(t *testing.T, x *tree.Tree) { wantList(t, x, "") },
		"Len":     func(t *testing.T, x *tree.Tree) { wantLen(t, x, 0) },
		"Mark":    func(t *testing.T, x *tree.Tree) { wantMark(t, x, 0) },
		"Since":   func(t *testing.T, x *tree.Tree) { wantSince(t, x, 0) },
		"Copy":    func(t *testing.T, x *tree.Tree) { wantEmpty(t, x.Copy()) },
	} {
		t.Run(name, func(t *testing.T) {
			var x tree.Tree
			first(t, &x)
			wantEmpty(t, &x)
			y := x.Copy()
			wantEmpty(t, y)
			wantWrite(t, &x, "a", "x", api.OK)
			wantRead(t, &x, "a", "x")
			wantList(t, &x, "", "a")
			wantMark(t, &x, 1)
			wantSince(t, &x, 0, "a")
			wantEmpty(t, y)
			wantWrite(t, y, "b", "", api.OK)
			wantList(t, y, "", "b")
			wantList(t, &x, "", "a")
			wantRemove(t, &x, "a", api.OK)
			wantLen(t, &x, 0)
			wantMark(t, &x, 2)
		})
	}
}

// P10.2

func TestNoPaths(t *testing.T) {
	x := tree.New()
	wantWrite(t, x, "a", "x", api.OK)
	wantSame(t, x, func() {
		for _, p := range noPaths() {
			wantNoRead(t, x, p, api.ErrArg)
			wantRemove(t, x, p, api.ErrArg)
			for _, s := range []string{"", "x", text(4096), text(4097)} { // ErrArg goes ahead of ErrLong
				wantWrite(t, x, p, s, api.ErrArg)
			}
		}
	})
}

func TestPaths(t *testing.T) {
	x := tree.New()
	for i, p := range somePaths() {
		wantNoRead(t, x, p, api.ErrNone)
		wantWrite(t, x, p, "of "+p, api.OK)
		wantLen(t, x, i+1)
	}
	for _, p := range somePaths() {
		wantRead(t, x, p, "of "+p)
	}
	for i, p := range somePaths() {
		wantRemove(t, x, p, api.OK)
		wantNoRead(t, x, p, api.ErrNone)
		wantLen(t, x, len(somePaths())-1-i)
	}
}

// Paths are names alone.
func TestFileBelowFile(t *testing.T) {
	x := tree.New()
	for _, p := range []string{"a/b", "a", "a/b/c"} {
		wantWrite(t, x, p, "of "+p, api.OK)
	}
	for _, p := range []string{"a/b", "a", "a/b/c"} {
		wantRead(t, x, p, "of "+p)
	}
	wantList(t, x, "", "a", "a/b", "a/b/c")
	wantRemove(t, x, "a", api.OK)
	wantNoRead(t, x, "a", api.ErrNone)
	wantRead(t, x, "a/b", "of a/b")
	wantRemove(t, x, "a/b/c", api.OK)
	wantRead(t, x, "a/b", "of a/b")
	wantNoRead(t, x, "a/b/c", api.ErrNone)
	wantNoRead(t, x, "b", api.ErrNone)
}

func TestContents(t *testing.T) {
	x := tree.New()
	contents := []string{"", "x", "\x00", "\xff\x00\n", "é", text(255), text(256), text(257), text(4095), text(4096), times(4096, "\x00")}
	for i, s := range contents {
		wantWrite(t, x, "a", s, api.OK)
		wantRead(t, x, "a", s)
		wantWrite(t, x, fmt.Sprint("b", i), s, api.OK)
	}
	for i, s := range contents {
		wantRead(t, x, fmt.Sprint("b", i), s)
	}
}

func TestLong(t *testing.T) {
	x := tree.New()
	wantWrite(t, x, "a", text(4096), api.OK)
	wantSame(t, x, func() {
		for _, n := range []int{4097, 4098, 8192, 1 << 16, 1 << 20} {
			wantWrite(t, x, "a", text(n), api.ErrLong) // of one that is there, and of a new one
			wantWrite(t, x, "b", text(n), api.ErrLong)
			wantNoRead(t, x, "b", api.ErrNone)
		}
	})
	wantRead(t, x, "a", text(4096))
}

func TestFull(t *testing.T) {
	x := full(t)
	wantSame(t, x, func() {
		wantWrite(t, x, "g", "x", api.ErrFull)
		wantWrite(t, x, "g", "", api.ErrFull)
		wantWrite(t, x, "f0/a", "x", api.ErrFull)
		wantNoRead(t, x, "g", api.ErrNone)
		wantRemove(t, x, "g", api.ErrNone)
		wantWrite(t, x, "f7", "f7", api.OK) // what stands there already

		// Two errors at once.
		wantWrite(t, x, "g", text(4097), api.ErrLong)
		wantWrite(t, x, "G", "x", api.ErrArg)
		wantWrite(t, x, "G", text(4097), api.ErrArg)
		wantWrite(t, x, "f7", text(4097), api.ErrLong)
	})
	wantWrite(t, x, "f7", "y", api.OK)
	wantWrite(t, x, "f8", "", api.OK)
	wantWrite(t, x, "f9", text(4096), api.OK)
	wantRead(t, x, "f7", "y")
	wantLen(t, x, api.MaxFiles)
	wantMark(t, x, api.MaxFiles+3)

	wantRemove(t, x, "f255", api.OK)
	wantLen(t, x, api.MaxFiles-1)
	wantWrite(t, x, "g", "", api.OK)
	wantLen(t, x, api.MaxFiles)
	wantWrite(t, x, "f255", "", api.ErrFull)
	wantWrite(t, x.Copy(), "f255", "", api.ErrFull)
	for p := range x.List("") {
		wantRemove(t, x, p, api.OK)
	}
	wantLen(t, x, 0)
	wantList(t, x, "")
	wantWrite(t, x, "a", "x", api.OK)
	wantList(t, x, "", "a")
}

// P10.3

func TestList(t *testing.T) {
	x := tree.New()
	paths := []string{"b", "ab", "a", "a/b", "a.b", "a-b", "a_b", "a0", "aa", "a/b/c", "b/a", "-", "0", "_", ".a", "..."}
	for _, p := range paths {
		wantWrite(t, x, p, "of "+p, api.OK)
	}
	wantList(t, x, "", "-", "...", ".a", "0", "_", "a", "a-b", "a.b", "a/b", "a/b/c", "a0", "a_b", "aa", "ab", "b", "b/a")
	wantList(t, x, "a", "a", "a-b", "a.b", "a/b", "a/b/c", "a0", "a_b", "aa", "ab")
	wantList(t, x, "a/b", "a/b", "a/b/c")
	wantList(t, x, "b/a", "b/a")

	// What is no path may be asked too.
	wantList(t, x, "a/", "a/b", "a/b/c")
	wantList(t, x, "a/b/", "a/b/c")
	wantList(t, x, "b/", "b/a")
	wantList(t, x, ".", "...", ".a")
	wantList(t, x, "..", "...")
	for _, none := range []string{"c", "a/b/c/", "a/b/cd", "A", "/", "/a", "a//", "a*", "*", "**", "a?", "%", "\x00", "\xff", "a\x00", "b/a ", " ", times(5000, "a"), "of a"} {
		wantList(t, x, none)
	}
	for n := range 10 {
		p := fmt.Sprint("c/", n)
		wantWrite(t, x, p, "", api.OK)
		wantList(t, x, p, p)
	}
}

func TestListAgain(t *testing.T) {
	x := tree.New()
	for _, p := range []string{"c", "a", "d", "b"} {
		wantWrite(t, x, p, p, api.OK)
	}
	l := x.List("")
	for range 2 {
		for p := range l {
			if p != "a" {
				t.Error(p)
			}
			break
		}
		n := 0
		for p := range l {
			if n++; p == "c" {
				break
			}
		}
		if n != 3 {
			t.Error(n)
		}
		if all := slices.Collect(l); !slices.Equal(all, []string{"a", "b", "c", "d"}) {
			t.Error(all)
		}
	}
	for p := range l {
		if all := slices.Collect(l); len(all) != 4 {
			t.Errorf("at %q another going over told %q", p, all)
		}
	}
	// What one caller does with what it was told is its own.
	all := slices.Collect(l)
	all[0] = "z"
	if again := slices.Collect(l); again[0] != "a" {
		t.Error(again)
	}
}

// It tells what there was when List was called.
func TestListWhileChanged(t *testing.T) {
	x := tree.New()
	empty := x.List("")
	for _, p := range []string{"b", "d", "f"} {
		wantWrite(t, x, p, "", api.OK)
	}
	if l := slices.Collect(empty); len(l) > 0 {
		t.Errorf("List of a tree without files told %q later", l)
	}

	ahead := x.List("")
	wantWrite(t, x, "a", "", api.OK)
	wantRemove(t, x, "b", api.OK)
	wantWrite(t, x, "d", "other", api.OK)
	if l := slices.Collect(ahead); !slices.Equal(l, []string{"b", "d", "f"}) {
		t.Errorf("changed ahead of going over: %q", l)
	}

	var got []string
	for p := range ahead {
		got = append(got, p)
		wantWrite(t, x, p+"1", "", api.OK)
		wantWrite(t, x, "e", p, api.OK)
		if p == "b" {
			wantRemove(t, x, "f", api.OK)
			wantRemove(t, x, "d", api.OK)
		}
	}
	if !slices.Equal(got, []string{"b", "d", "f"}) {
		t.Errorf("changed while going over: %q", got)
	}
	if l := slices.Collect(ahead); !slices.Equal(l, got) {
		t.Errorf("gone over again: %q", l)
	}
	wantList(t, x, "", "a", "b1", "d1", "e", "f1")
}

func TestLen(t *testing.T) {
	x := tree.New()
	wantWrite(t, x, "a", "", api.OK)
	wantLen(t, x, 1)
	wantWrite(t, x, "a", "x", api.OK)
	wantWrite(t, x, "a", "x", api.OK)
	wantLen(t, x, 1)
	wantWrite(t, x, "b", "x", api.OK)
	wantLen(t, x, 2)
	wantRemove(t, x, "c", api.ErrNone)
	wantLen(t, x, 2)
	wantRemove(t, x, "a", api.OK)
	wantLen(t, x, 1)
}

// P10.4

func TestMark(t *testing.T) {
	x := tree.New()
	for _, c := range []struct {
		call func() api.Errno
		e    api.Errno
		mark int
	}{
		{func() api.Errno { return x.Write("a", "") }, api.OK, 1}, // the empty content, as the first one
		{func() api.Errno { return x.Write("a", "") }, api.OK, 1},
		{func() api.Errno { return x.Write("a", "x") }, api.OK, 2},
		{func() api.Errno { return x.Write("a", "x") }, api.OK, 2},
		{func() api.Errno { return x.Write("a", "x\x00") }, api.OK, 3},
		{func() api.Errno { return x.Write("a", "") }, api.OK, 4},
		{func() api.Errno { return x.Write("b", "") }, api.OK, 5},
		{func() api.Errno { return x.Write("B", "") }, api.ErrArg, 5},
		{func() api.Errno { return x.Write("b", text(4097)) }, api.ErrLong, 5},
		{func() api.Errno { return x.Remove("c") }, api.ErrNone, 5},
		{func() api.Errno { return x.Remove("a") }, api.OK, 6},
		{func() api.Errno { return x.Remove("a") }, api.ErrNone, 6},
		{func() api.Errno { return x.Write("a", "") }, api.OK, 7}, // the first one anew
		{func() api.Errno { _, e := x.Read("a"); return e }, api.OK, 7},
	} {
		wantErr(t, fmt.Sprint("the call to the mark ", c.mark), c.call(), c.e)
		wantMark(t, x, c.mark)
	}
	wantSince(t, x, 7)
	wantSince(t, x, 6, "a")
	wantSince(t, x, 5, "a")
	wantSince(t, x, 4, "a", "b")
	wantSince(t, x, 0, "a", "b")
}

func TestSince(t *testing.T) {
	x := tree.New()
	for _, p := range []string{"d", "b", "a/b", "c", "a", "a.b"} {
		wantWrite(t, x, p, "", api.OK)
	}
	wantSince(t, x, 0, "a", "a.b", "a/b", "b", "c", "d")
	wantSince(t, x, 3, "a", "a.b", "c")
	wantSince(t, x, 5, "a.b")
	wantSince(t, x, 6)
	wantNoSince(t, x, 7)
	for _, mark := range noMarks() {
		wantNoSince(t, x, mark)
	}

	// Each once: one that changed several times, came back to what it was, was removed, came and went.
	mark := x.Mark()
	for _, s := range []string{"x", "y", "z"} {
		wantWrite(t, x, "d", s, api.OK)
	}
	wantWrite(t, x, "b", "other", api.OK)
	wantWrite(t, x, "b", "", api.OK)
	wantRemove(t, x, "c", api.OK)
	wantRemove(t, x, "a", api.OK)
	wantWrite(t, x, "a", "", api.OK)
	wantWrite(t, x, "0", "new", api.OK)
	wantRemove(t, x, "0", api.OK)
	wantSince(t, x, mark, "0", "a", "b", "c", "d")
	wantSince(t, x, mark+3, "0", "a", "b", "c")
	wantSince(t, x, mark+4, "0", "a", "b", "c")
	wantSince(t, x, mark+5, "0", "a", "c")
	wantSince(t, x, mark+7, "0", "a")
	wantSince(t, x, mark+9, "0")
	wantSince(t, x, mark+10)
	wantNoSince(t, x, mark+11)

	// What is answered is new.
	l, _ := x.Since(mark)
	l[0] = "z"
	l = append(l, "zz")
	wantSince(t, x, mark, "0", "a", "b", "c", "d")
}

// At each mark up to 200, with another path for each change, or with few of them.
func TestJournal(t *testing.T) {
	for _, few := range []int{1, 2, 5, 31, 32, 33, 64, 100} {
		x := tree.New()
		var changed []string
		for n := range 200 {
			p := fmt.Sprint("f", (n*37)%few)
			wantWrite(t, x, p, fmt.Sprint(n), api.OK)
			changed = append(changed, p)
			for mark := range len(changed) + 3 {
				if mark > len(changed) || len(changed)-mark > 32 {
					wantNoSince(t, x, mark)
					continue
				}
				l := slices.Clone(changed[mark:])
				slices.Sort(l)
				wantSince(t, x, mark, slices.Compact(l)...)
			}
			wantNoSince(t, x, -1)
			wantNoSince(t, x, len(changed)-33) // below 0, or one too far behind
		}
	}
}

// 32 changes behind, and 33; Since of 0 among them. Removes count as Writes do.
func TestJournalEnds(t *testing.T) {
	x := tree.New()
	for i := range 32 {
		wantSince(t, x, 0, []string{"a"}[:min(i, 1)]...)
		if i%2 == 0 {
			wantWrite(t, x, "a", "", api.OK)
		} else {
			wantRemove(t, x, "a", api.OK)
		}
	}
	wantSince(t, x, 0, "a")
	wantSame(t, x, func() { // what is refused, and what is no change, pushes nothing out
		for range 40 {
			wantRemove(t, x, "a", api.ErrNone)
			wantWrite(t, x, "A", "", api.ErrArg)
			wantWrite(t, x, "a", text(4097), api.ErrLong)
		}
	})
	wantSince(t, x, 0, "a")
	wantWrite(t, x, "b", "", api.OK)
	for range 40 {
		wantWrite(t, x, "b", "", api.OK)
	}
	wantNoSince(t, x, 0)
	wantSince(t, x, 1, "a", "b")
	wantSince(t, x, 32, "b")
	wantSince(t, x, 33)
	wantNoSince(t, x, 34)
}

// P10.5

func TestCopy(t *testing.T) {
	x := tree.New()
	for i := range 40 {
		wantWrite(t, x, fmt.Sprint("f", i%7), fmt.Sprint(i), api.OK)
	}
	y := x.Copy()
	if y == x {
		t.Fatal("it is the same tree")
	}
	if was, is := told(t, x), told(t, y); is != was {
		t.Fatalf("of %s the copy tells %s", was, is)
	}

	wantSame(t, x, func() {
		wantWrite(t, y, "f0", "other", api.OK)
		wantRemove(t, y, "f1", api.OK)
		wantWrite(t, y, "g", "new", api.OK)
	})
	wantRead(t, y, "f0", "other")
	wantNoRead(t, y, "f1", api.ErrNone)
	wantLen(t, y, 7)
	wantMark(t, y, 43)
	wantSince(t, y, 40, "f0", "f1", "g")

	wantSame(t, y, func() {
		wantWrite(t, x, "h", "", api.OK)
		wantRemove(t, x, "f2", api.OK)
		wantWrite(t, x, "f0", "third", api.OK)
		wantWrite(t, x, "i", "", api.OK)
	})
	wantRead(t, x, "f0", "third")
	wantMark(t, x, 44)
	wantSince(t, x, 40, "f0", "f2", "h", "i")

	// One after the other, past the journal's end; copies of copies.
	z := y.Copy()
	for i := range 50 {
		wantWrite(t, x, fmt.Sprint("x", i), "", api.OK)
		wantWrite(t, y, fmt.Sprint("y", i), "", api.OK)
		wantSince(t, x, x.Mark()-1, fmt.Sprint("x", i))
		wantSince(t, y, y.Mark()-1, fmt.Sprint("y", i))
	}
	wantMark(t, z, 43)
	wantSince(t, z, 40, "f0", "f1", "g")
	wantList(t, z, "", "f0", "f2", "f3", "f4", "f5", "f6", "g")
	wantList(t, z, "x")
	wantList(t, x, "y")
	wantList(t, y, "x")
}

// P10.6

// at is what somebody knows: what the files were at a mark.
type at struct {
	mark  int
	files map[string]string
}

// renew reads anew just the paths that Since tells, and answers whether it told them.
func (a *at) renew(t *testing.T, x *tree.Tree) bool {
	t.Helper()
	changed, ok := x.Since(a.mark)
	for _, p := range changed {
		switch s, e := x.Read(p); e {
		case api.OK:
			a.files[p] = s
		case api.ErrNone:
			delete(a.files, p)
		default:
			t.Errorf("Read(%q) of what Since told: %d", p, e)
		}
	}
	return ok
}

func TestNothingIsMissed(t *testing.T) {
	x := tree.New()
	wantWrite(t, x, "a", "x", api.OK)
	wantWrite(t, x, "b", "y", api.OK)
	for n := range 33 {
		a := at{x.Mark(), files(t, x)}
		for i := range n {
			p := fmt.Sprint("f", (n+i)%9)
			if i%3 == 2 && x.Remove(p) == api.OK {
				continue
			}
			wantWrite(t, x, p, fmt.Sprint(n, i), api.OK)
		}
		if !a.renew(t, x) {
			t.Fatalf("Since(%d) at %d: false", a.mark, x.Mark())
		}
		if got, want := fmt.Sprintf("%q", a.files), fmt.Sprintf("%q", files(t, x)); got != want {
			t.Errorf("read anew: %s, but there is %s", got, want)
		}
	}
}

// P10.7

func TestWhatWasWrittenIsRead(t *testing.T) {
	x := tree.New()
	for i, p := range somePaths() {
		wantWrite(t, x, p, text(i), api.OK)
		wantRead(t, x, p, text(i))
	}
	for i, p := range somePaths() {
		wantRead(t, x, p, text(i))
		mark := x.Mark()
		wantWrite(t, x, p, text(i), api.OK)
		wantMark(t, x, mark)
		wantSince(t, x, mark)
		wantWrite(t, x, p, text(i+100), api.OK)
		wantMark(t, x, mark+1)
		wantRead(t, x, p, text(i+100))
		wantRemove(t, x, p, api.OK)
		wantNoRead(t, x, p, api.ErrNone)
		for j, q := range somePaths() {
			if j > i {
				wantRead(t, x, q, text(j))
			} else {
				wantNoRead(t, x, q, api.ErrNone)
			}
		}
	}
}
