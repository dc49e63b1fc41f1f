package path_test

import (
	"slices"
	"strings"
	"testing"

	"brickyard/api"
	"brickyard/path"
)

func times(n int, s string) string { return strings.Repeat(s, n) }

// long is a path of n bytes, in segments of at most 9.
func long(n int) string {
	s := times(n/10+1, "abcdefgh./")[:n]
	if s[n-1] == '/' {
		return s[:n-1] + "x"
	}
	return s
}

// isSegment is the word, byte by byte.
func isSegment(s string) bool {
	if len(s) < 1 || len(s) > 32 || s == "." || s == ".." {
		return false
	}
	for i := range len(s) {
		if strings.IndexByte("abcdefghijklmnopqrstuvwxyz0123456789_.-", s[i]) < 0 {
			return false
		}
	}
	return true
}

// isPath is the word.
func isPath(s string) bool {
	for _, piece := range strings.Split(s, "/") {
		if !isSegment(piece) {
			return false
		}
	}
	return len(s) <= 60
}

// norm is P9.2, with a list of pieces.
func norm(s string) (string, api.Errno) {
	var kept []string
	for _, piece := range strings.Split(s, "/") {
		switch {
		case piece == "" || piece == ".":
		case piece == "..":
			if len(kept) == 0 {
				return "", api.ErrArg
			}
			kept = kept[:len(kept)-1]
		case !isSegment(piece):
			return "", api.ErrArg
		default:
			kept = append(kept, piece)
		}
	}
	if len(kept) == 0 {
		return "", api.ErrArg
	}
	if p := strings.Join(kept, "/"); len(p) <= 60 {
		return p, api.OK
	}
	return "", api.ErrLong
}

// all calls do with each text of at most n bytes of these.
func all(n int, bytes string, do func(string)) {
	var more func(string)
	more = func(s string) {
		do(s)
		if len(s) == n {
			return
		}
		for i := range len(bytes) {
			more(s + bytes[i:i+1])
		}
	}
	more("")
}

func wantNorm(t *testing.T, s, want string, wantE api.Errno) {
	t.Helper()
	if p, e := path.Norm(s); p != want || e != wantE {
		t.Errorf("Norm(%q): %q, %d; want %q, %d", s, p, e, want, wantE)
	}
}

// wantParts asks a path for all of its parts; above is nearest first.
func wantParts(t *testing.T, p, base string, above ...string) {
	t.Helper()
	if b := path.Base(p); b != base {
		t.Errorf("Base(%q): %q, want %q", p, b, base)
	}
	want := ""
	if len(above) > 0 {
		want = above[0]
	}
	if up, ok := path.Parent(p); up != want || ok != (len(above) > 0) {
		t.Errorf("Parent(%q): %q, %v; want %q", p, up, ok, want)
	}
	if l := slices.Collect(path.Above(p)); !slices.Equal(l, above) {
		t.Errorf("Above(%q): %q, want %q", p, l, above)
	}
}

// P9.1

func TestIs(t *testing.T) {
	right := []string{
		"a", "a/b.c", "...", "....", ".a", "a.", "..a", "a..", ".-", "-", "_", "0", "9", "az09_.-", "a/.../b", "-/_/.x",
		times(32, "a"), times(32, "."), times(27, "a") + "/" + times(32, "b"), times(29, "a/") + "bc", times(29, "a/") + "b", long(59), long(60),
	}
	for _, s := range right {
		if !path.Is(s) {
			t.Errorf("Is(%q): false", s)
		}
	}
	wrong := []string{
		"", "/", "//", "///", ".", "..", "A", "Z", "a/A", "A/a", "a//b", "/a", "a/", "//a", "a//", "/a/b", "a/b/", "a/.", "./a", "a/./b", "a/..", "../a", "a/../b",
		"a b", " a", "a ", "a\n", "\x00", "a\x00", "%", "a%", "*", "?", "a*", "\\", "a\\b", "\xff", "é", "a:b", "~",
		times(33, "a"), "a/" + times(33, "b"), times(33, ".") + "/a", times(28, "a") + "/" + times(32, "b"), times(30, "a/") + "b", long(61), long(62), times(1000, "a/") + "a", times(100000, "a"),
	}
	for _, s := range wrong {
		if path.Is(s) {
			t.Errorf("Is(%q): true", s)
		}
		wantParts(t, s, "")
	}
}

func TestBytesOfSegments(t *testing.T) {
	for b := range 256 {
		one := string([]byte{byte(b)})
		for _, s := range []string{one, "a" + one, one + "a", "a" + one + "a", "a/" + one, one + "/a", "..." + one, times(31, "a") + one} {
			if got := path.Is(s); got != isPath(s) {
				t.Errorf("Is(%q): %v", s, got)
			}
			want, e := norm(s)
			wantNorm(t, s, want, e)
		}
	}
}

func TestIsOfAllShortTexts(t *testing.T) {
	all(6, "a./A", func(s string) {
		if got := path.Is(s); got != isPath(s) {
			t.Errorf("Is(%q): %v", s, got)
		}
		if isPath(s) {
			return
		}
		wantParts(t, s, "")
	})
}

func TestParts(t *testing.T) {
	wantParts(t, "a", "a")
	wantParts(t, "...", "...")
	wantParts(t, "a/b", "b", "a")
	wantParts(t, "a/b/c", "c", "a/b", "a")
	wantParts(t, "a/a/a/a", "a", "a/a/a", "a/a", "a")
	wantParts(t, "x.y/.../-", "-", "x.y/...", "x.y")
	wantParts(t, times(32, "a"), times(32, "a"))
	wantParts(t, times(27, "a")+"/"+times(32, "b"), times(32, "b"), times(27, "a"))
	deep := times(29, "a/") + "bc"
	var above []string
	for n := 57; n > 0; n -= 2 {
		above = append(above, deep[:n])
	}
	wantParts(t, deep, "bc", above...)
}

// R6: it may be left early, and gone through again.
func TestAboveAgain(t *testing.T) {
	up := path.Above("a/b/c/d")
	for range 2 {
		for p := range up {
			if p != "a/b/c" {
				t.Error(p)
			}
			break
		}
		n := 0
		for p := range up {
			n++
			if p == "a/b" {
				break
			}
		}
		if n != 2 {
			t.Error(n)
		}
		if l := slices.Collect(up); !slices.Equal(l, []string{"a/b/c", "a/b", "a"}) {
			t.Error(l)
		}
	}
	for p := range up {
		if l := slices.Collect(up); len(l) != 3 {
			t.Errorf("at %q another going through told %q", p, l)
		}
	}
	for _, s := range []string{"", "a", "/", "a//b", "/a/b", "a/b/", "a/B", "a/b/.."} {
		none := path.Above(s)
		for range 2 {
			for p := range none {
				t.Errorf("Above(%q) told %q", s, p)
			}
		}
	}
}

// P9.2

func TestNorm(t *testing.T) {
	for s, want := range map[string]string{
		"a//b/./../c": "a/c", "/a": "a", "a": "a", "a/": "a", "//a//": "a", "./a": "a", "a/.": "a", "a/b": "a/b", "/./a/./b/.": "a/b",
		"a/../b": "b", "a/b/..": "a", "a/b/../..//c": "c", "a/b/c/../../d": "a/d", "a/b/../c/..": "a", "...": "...", "a/.../..": "a", "..././a/..": "...", "/a/../b/../c": "c",
		times(97, "a/../") + "b": "b", times(5000, "abc/") + times(4999, "../"): "abc", times(20000, "/") + "a" + times(20000, "/."): "a",
		times(32, "a"): times(32, "a"), "b/" + times(32, "a") + "/..": "b", long(60): long(60),
	} {
		wantNorm(t, s, want, api.OK)
	}
}

func TestNormWrong(t *testing.T) {
	for _, s := range []string{
		"", "/", "//", ".", "./", "/.", "././.", "..", "../", "/..", "../a", "/../a", "./../a", "a/..", "a/../", "/a/..", "a/../..", "a/../../b", "a/b/../../..", "a/b/../../../c",
		"A", "a/B", "a/B/..", "B/../a", "a/ /..", " ", "a/b c/../d", "\x00", "a\xff", "%", "a/*/..", "é",
		times(33, "a"), times(33, "a") + "/..", "a/" + times(33, "b") + "/..", times(33, "."), "b/" + times(1000, "a"),
		times(97, "a/../"), times(97, "a/../") + "..", times(5000, "abc/") + times(5000, "../"), times(5000, "abc/") + times(5001, "../") + "a",
	} {
		wantNorm(t, s, "", api.ErrArg)
	}
}

func TestNormLong(t *testing.T) {
	s := times(24, "a")
	wantNorm(t, s+"/"+s+"/"+s, "", api.ErrLong)
	wantNorm(t, s+"/"+s, s+"/"+s, api.OK)
	wantNorm(t, long(59), long(59), api.OK)
	wantNorm(t, long(60), long(60), api.OK)
	wantNorm(t, long(61), "", api.ErrLong)
	wantNorm(t, times(27, "a")+"/"+times(32, "b"), times(27, "a")+"/"+times(32, "b"), api.OK)
	wantNorm(t, times(28, "a")+"/"+times(32, "b"), "", api.ErrLong)
	wantNorm(t, times(30, "a/")+"b", "", api.ErrLong)
	wantNorm(t, times(29, "a/")+"b", times(29, "a/")+"b", api.OK)
	wantNorm(t, "//"+long(60)+"/./", long(60), api.OK)
	wantNorm(t, times(50000, "a/"), "", api.ErrLong)

	// Too long on the way, and short at the end.
	wantNorm(t, times(28, "a")+"/"+times(32, "b")+"/..", times(28, "a"), api.OK)
	wantNorm(t, times(50000, "a/")+times(49999, "../")+"x", "a/x", api.OK)

	// ErrArg goes ahead, wherever it comes.
	for _, wrong := range []string{"A", "a b", times(33, "a"), "\x00"} {
		wantNorm(t, wrong+"/"+times(50, "a/"), "", api.ErrArg)
		wantNorm(t, times(50, "a/")+wrong, "", api.ErrArg)
		wantNorm(t, times(25, "a/")+wrong+"/../"+times(25, "a/"), "", api.ErrArg)
	}
	wantNorm(t, "../"+times(50, "a/"), "", api.ErrArg)
	wantNorm(t, times(50, "a/")+times(51, "../")+times(50, "a/"), "", api.ErrArg)
}

func TestNormOfAllShortTexts(t *testing.T) {
	all(8, "a./", func(s string) {
		want, e := norm(s)
		wantNorm(t, s, want, e)
	})
	all(5, "a./A", func(s string) {
		want, e := norm(s)
		wantNorm(t, s, want, e)
	})
}

// P9.3

func TestMatch(t *testing.T) {
	for _, x := range []struct {
		pattern, s, stem string
		ok               bool
	}{
		{"%.o", "x/y.o", "x/y", true}, {"%.o", ".o", "", false}, {"%.o", "x.c", "", false}, {"%.o", "", "", false}, {"%.o", "x.o.o", "x.o", true}, {"%.o", "x.oo", "", false},
		{"a%a", "a", "", false}, {"a%a", "aa", "", false}, {"a%a", "aaa", "a", true}, {"a%a", "aba", "b", true}, {"a%a", "aaaa", "aa", true}, {"a%a", "abc", "", false}, {"a%a", "cba", "", false},
		{"aba%ba", "aba", "", false}, {"ab%ba", "aba", "", false}, {"ab%ba", "abba", "", false}, {"ab%ba", "ab-ba", "-", true},
		{"ab", "ab", "", true}, {"ab", "abc", "", false}, {"ab", "a", "", false}, {"ab", "", "", false}, {"ab", "ba", "", false}, {"", "", "", true}, {"", "a", "", false}, {"", "%", "", false},
		{"%", "", "", false}, {"%", "a", "a", true}, {"%", "a/b c\x00\xff", "a/b c\x00\xff", true}, {"%", "%", "%", true}, {"%", "%%", "%%", true},
		{"a%", "a", "", false}, {"a%", "ab", "b", true}, {"a%", "a%", "%", true}, {"a%", "ba", "", false}, {"%a", "ba", "b", true}, {"%a", "%a", "%", true}, {"%a", "a", "", false}, {"%a", "ab", "", false},
		{"a%b", "a%b", "%", true}, {"a%b", "aa%b%b", "a%b%", true}, {"a%b", "a%", "", false}, {"src/%.c", "src/a/b.c", "a/b", true}, {"src/%.c", "src/.c", "", false}, {"src/%.c", "src/a.h", "", false},
		{"%%", "ab", "", false}, {"%%", "%%", "", false}, {"%%", "", "", false}, {"%%", "a", "", false}, {"%-%", "x-x", "", false}, {"%-%", "%-%", "", false}, {"a%%b", "axb", "", false}, {"%%%", "aaa", "", false}, {"%a%", "bab", "", false},
		{"\xff%\x00", "\xff.\x00", ".", true}, {"é%", "é\xa9", "\xa9", true}, {"*%", "ab", "", false}, {"*%", "*b", "b", true}, {"?%", "ab", "", false},
		{times(5000, "a") + "%" + times(5000, "b"), times(5000, "a") + "%" + times(5000, "b"), "%", true},
		{times(5000, "a") + "%" + times(5000, "a"), times(10000, "a"), "", false},
		{times(5000, "a") + "%" + times(5000, "a"), times(10007, "a"), "aaaaaaa", true},
	} {
		if stem, ok := path.Match(x.pattern, x.s); stem != x.stem || ok != x.ok {
			t.Errorf("Match(%q, %q): %q, %v", x.pattern, x.s, stem, ok)
		}
	}
}

// match is P9.3, by trying each stem that there can be.
func match(pattern, s string) (string, bool) {
	switch strings.Count(pattern, "%") {
	case 0:
		return "", pattern == s
	case 1:
		at := strings.IndexByte(pattern, '%')
		for i := range len(s) {
			for j := i + 1; j <= len(s); j++ {
				if pattern[:at] == s[:i] && pattern[at+1:] == s[j:] {
					return s[i:j], true
				}
			}
		}
	}
	return "", false
}

func TestMatchOfAllShortTexts(t *testing.T) {
	all(5, "ab%", func(pattern string) {
		all(5, "ab%", func(s string) {
			want, is := match(pattern, s)
			if stem, ok := path.Match(pattern, s); stem != want || ok != is {
				t.Errorf("Match(%q, %q): %q, %v; want %q, %v", pattern, s, stem, ok, want, is)
			}
		})
	})
}

func TestFill(t *testing.T) {
	for _, x := range [][3]string{
		{"%.o", "x", "x.o"}, {"%-%", "x", "x-x"}, {"ab", "x", "ab"}, {"", "x", ""}, {"", "", ""}, {"%", "", ""}, {"%", "x", "x"}, {"%%", "ab", "abab"}, {"a%b%c", "", "abc"},
		{"%", "%", "%"}, {"%%", "%", "%%"}, {"%a%", "%%", "%%a%%"}, {"a%", "b%c", "ab%c"}, {"%/%.c", "a/b", "a/b/a/b.c"}, {"%", "\x00\xff", "\x00\xff"}, {"\xff%", "é", "\xffé"},
		{"*?%", "*", "*?*"}, {times(3000, "%"), "ab", times(3000, "ab")}, {times(3000, "a%"), "", times(3000, "a")}, {"a", times(3000, "%"), "a"},
	} {
		if s := path.Fill(x[0], x[1]); s != x[2] {
			t.Errorf("Fill(%q, %q): %q, want %q", x[0], x[1], s, x[2])
		}
	}
	all(5, "a%", func(pattern string) {
		all(2, "a%", func(stem string) {
			want := strings.Join(strings.Split(pattern, "%"), stem)
			if s := path.Fill(pattern, stem); s != want {
				t.Errorf("Fill(%q, %q): %q, want %q", pattern, stem, s, want)
			}
		})
	})
}

// P9.5

// detours are what may be put in ahead of a text, a / behind.
func detours() []string {
	return []string{"", ".", "x/..", "a/..", ".../..", times(32, "y") + "/..", "./.", "/", "x/y/../..", "x/../y/.."}
}

func TestNormOfPaths(t *testing.T) {
	for _, p := range []string{"a", "a/b", "...", "a/.../-", long(59), long(60), times(32, "_"), times(29, "0/") + "9"} {
		wantNorm(t, p, p, api.OK)
	}
	all(7, "a./", func(s string) {
		if path.Is(s) {
			wantNorm(t, s, s, api.OK)
		}
		if p, e := path.Norm(s); e == api.OK && !path.Is(p) {
			t.Errorf("Norm(%q): %q, which is no path", s, p)
		}
	})
}

func TestDetours(t *testing.T) {
	texts := []string{
		"", "a", "a/b", "a/b/c", "/a/b", "a/b/", "a//b", "a/./b", "a/../b", "a/b/../c", "../a", "a/..", "a/../..", "a/B/../c", "/", "//", "A", "./..", "...",
		long(60), long(61), times(31, "a/"), times(31, "a/") + "A", times(31, "a/") + times(5, "../"), "a b/c", "a/" + times(33, "b"),
	}
	for _, s := range texts {
		want, e := path.Norm(s)
		for _, d := range detours() {
			wantNorm(t, d+"/"+s, want, e)
			every := d + "/" + strings.ReplaceAll(s, "/", "/"+d+"/")
			wantNorm(t, every, want, e)
			for i := range len(s) {
				if s[i] == '/' {
					wantNorm(t, s[:i]+"/"+d+s[i:], want, e)
				}
			}
		}
	}
}

func TestDetoursOfAllShortTexts(t *testing.T) {
	all(6, "a./", func(s string) {
		want, e := path.Norm(s)
		for _, d := range detours()[:4] {
			wantNorm(t, d+"/"+s, want, e)
			for i := range len(s) {
				if s[i] == '/' {
					wantNorm(t, s[:i]+"/"+d+s[i:], want, e)
				}
			}
		}
	})
}

// P9.6

func TestParentAndBase(t *testing.T) {
	check := func(p string) {
		up, ok := path.Parent(p)
		switch whole := up + "/" + path.Base(p); {
		case !path.Is(p) || !strings.Contains(p, "/"):
			if ok || up != "" {
				t.Errorf("Parent(%q): %q, %v", p, up, ok)
			}
		case !ok || whole != p:
			t.Errorf("%q comes to %q, %v", p, whole, ok)
		case !path.Is(up) || !path.Is(path.Base(p)):
			t.Errorf("%q: parent %q, base %q", p, up, path.Base(p))
		}
	}
	all(8, "a./", check)
	for n := 1; n <= 70; n++ {
		check(long(n))
		check(times(n, "a/") + "b")
		check("b/" + times(n, "a"))
	}
}

func TestTwoPaths(t *testing.T) {
	wantTwo := func(p, q string) {
		t.Helper()
		if s := p + "/" + q; len(s) > 60 {
			wantNorm(t, s, "", api.ErrLong)
		} else {
			wantNorm(t, s, s, api.OK)
			if !path.Is(s) {
				t.Errorf("Is(%q): false", s)
			}
		}
	}
	for n := 1; n <= 60; n++ {
		for m := 1; m <= 60; m++ {
			wantTwo(long(n), long(m))
		}
	}
	wantTwo(times(27, "a"), times(32, "b"))
	wantTwo(times(28, "a"), times(32, "b"))
	wantTwo("...", ".../...")
}

// P9.7

func TestStems(t *testing.T) {
	patterns := []string{"%", "a%", "%a", "a%a", "ab%ba", "src/%.c", "%\xff", ".%.", times(40, "a") + "%" + times(40, "a")}
	stems := []string{"a", "aa", "%", "%%", "a%a", "b", "/", "x/y", "\x00", "\xff", "é", times(100, "a"), "ba", "ab", ".c", "*", "?"}
	for _, pattern := range patterns {
		for _, stem := range stems {
			if got, ok := path.Match(pattern, path.Fill(pattern, stem)); got != stem || !ok {
				t.Errorf("%q filled with %q tells %q, %v", pattern, stem, got, ok)
			}
		}
		if stem, ok := path.Match(pattern, path.Fill(pattern, "")); stem != "" || ok {
			t.Errorf("%q filled with nothing tells %q, %v", pattern, stem, ok)
		}
	}
	all(4, "ab%", func(pattern string) {
		if strings.Count(pattern, "%") != 1 {
			return
		}
		all(6, "ab", func(s string) {
			if stem, ok := path.Match(pattern, s); ok && (stem == "" || path.Fill(pattern, stem) != s) {
				t.Errorf("%q of %q: %q fills it to %q", pattern, s, stem, path.Fill(pattern, stem))
			}
		})
		all(4, "ab%", func(stem string) {
			if got, ok := path.Match(pattern, path.Fill(pattern, stem)); got != stem || ok != (stem != "") {
				t.Errorf("%q filled with %q tells %q, %v", pattern, stem, got, ok)
			}
		})
	})
}
