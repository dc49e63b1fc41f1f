package path_test

import (
	"math/rand"
	"strings"
	"testing"
	"time"

	"brickyard/path"
)

// P9.4

// glob is the word: from the left, each way in which a star can run.
func glob(g, s string) bool {
	switch {
	case g == "":
		return s == ""
	case strings.HasPrefix(g, "**"):
		for n := 0; n <= len(s); n++ {
			if glob(g[2:], s[n:]) {
				return true
			}
		}
		return false
	case g[0] == '*':
		for n := 0; n <= len(s) && !strings.Contains(s[:n], "/"); n++ {
			if glob(g[1:], s[n:]) {
				return true
			}
		}
		return false
	}
	return s != "" && (g[0] == s[0] && g[0] != '?' || g[0] == '?' && s[0] != '/') && glob(g[1:], s[1:])
}

// globByEnds is the word too, for longer globs: which beginnings of the text each beginning of the glob fits.
func globByEnds(g, s string) bool {
	ends := make([]bool, len(s)+1)
	ends[0] = true
	for g != "" {
		next := make([]bool, len(s)+1)
		n := 1
		switch {
		case strings.HasPrefix(g, "**"):
			n = 2
			for i := range next {
				next[i] = ends[i] || i > 0 && next[i-1]
			}
		case g[0] == '*':
			for i := range next {
				next[i] = ends[i] || i > 0 && next[i-1] && s[i-1] != '/'
			}
		default:
			for i := range s {
				next[i+1] = ends[i] && (g[0] == '?' && s[i] != '/' || g[0] != '?' && g[0] == s[i])
			}
		}
		ends, g = next, g[n:]
	}
	return ends[len(s)]
}

func wantGlob(t *testing.T, g, s string, want bool) {
	t.Helper()
	if path.Glob(g, s) != want {
		t.Errorf("Glob(%.200q, %.200q): %v", g, s, !want)
	}
}

func TestGlob(t *testing.T) {
	for _, x := range []struct {
		g         string
		fits, not []string
	}{
		{"", []string{""}, []string{"a", "/", "*"}},
		{"a", []string{"a"}, []string{"", "b", "aa", "A", "a/"}},
		{"?", []string{"a", "?", "*", "\x00", "\xff", "."}, []string{"", "/", "aa", "é"}},
		{"a?c", []string{"abc", "a?c", "a*c", "a.c"}, []string{"a/c", "ac", "abbc", "abd"}},
		{"??", []string{"ab", "é"}, []string{"a", "/a", "a/", "abc"}},
		{"*", []string{"", "a", "abc", "*", "**", "?", "a.b", "\x00\xff"}, []string{"/", "a/", "/a", "a/b"}},
		{"**", []string{"", "a", "/", "//", "a/b/c", "*", "\x00/\xff"}, nil},
		{"***", []string{"", "a", "/", "a/", "/a", "a/b/c"}, nil},
		{"****", []string{"", "a", "/", "a/b/c"}, nil},
		{"*****", []string{"", "a", "/", "a/b/c"}, nil},
		{"*.c", []string{"a.c", ".c", "a.c.c", "*.c"}, []string{"a/b.c", "/.c", "a.c/", "a.cc", "c", "", "a.cb"}},
		{"**.c", []string{"a.c", ".c", "a/b.c", "/.c", "a.c/b.c"}, []string{"a.c/", "a/b.cc", "c", ""}},
		{"***.c", []string{"a.c", ".c", "a/b.c", "/.c"}, []string{"a.c/", ""}},
		{"****.c", []string{"a.c", ".c", "a/b.c", "/.c"}, []string{"a.c/", ""}},
		{"a*", []string{"a", "ab", "a*"}, []string{"", "b", "ba", "a/", "a/b"}},
		{"a**", []string{"a", "ab", "a/", "a/b/c"}, []string{"", "b", "ba"}},
		{"a***", []string{"a", "ab", "a/", "a/b/c"}, []string{"", "b", "ba"}},
		{"a*b", []string{"ab", "aab", "abb", "a.b"}, []string{"a/b", "a", "b", "", "abc", "cab"}},
		{"a**b", []string{"ab", "a/b", "a/b/b", "abb"}, []string{"a", "b", "a/", "a/bc"}},
		{"a***b", []string{"ab", "a/b", "a/c/b", "acb"}, []string{"a", "b", "a/"}},
		{"a****b", []string{"ab", "a/b", "a/c/b", "acb"}, []string{"a", "b", "a/"}},
		{"*/*", []string{"/", "a/", "/b", "a/b"}, []string{"", "a", "a/b/c", "//", "a//b"}},
		{"**/*", []string{"/", "a/b", "a/b/c", "//", "a/"}, []string{"", "a"}},
		{"*/**", []string{"/", "a/b", "a/b/c", "//"}, []string{"", "a"}},
		{"**/**", []string{"/", "a/b", "a/b/c", "//"}, []string{"", "a"}},
		{"**/a", []string{"/a", "b/a", "a/a", "b/c/a"}, []string{"a", "", "ba", "b/ba"}},
		{"**?", []string{"a", "a/b", "//b"}, []string{"", "/", "a/"}},
		{"?**", []string{"a", "a/b", "a//"}, []string{"", "/", "/a"}},
		{"*?", []string{"a", "ab"}, []string{"", "/", "a/", "/a", "a/b"}},
		{"?*", []string{"a", "ab"}, []string{"", "/", "a/", "/a", "a/b"}},
		{"*?*", []string{"a", "ab", "abc"}, []string{"", "/", "a/b"}},
		{"**?**", []string{"a", "/a", "a/", "/a/"}, []string{"", "/", "//"}},
		{"*a*b*", []string{"ab", "xaxbx", "aabb", "abab"}, []string{"ba", "a/b", "a", "x/ab", "ab/x"}},
		{"**a*b", []string{"a/ab", "a/b/ab", "ab", "aab", "a/aab", "a/xaxxb"}, []string{"a/b", "ab/", "ab/b", "a/b/b"}},
		{"**a*b**", []string{"a/ab/", "a/b/ab", "a/a/ab", "//ab//"}, []string{"a/b", "b/a", "a/b/a/b"}},
		{"**a/*b/*c", []string{"a/b/c", "a/b/a/b/c", "a/b/x/a/b/c", "a/a/b/c", "xa/xb/xc", "a/b/xa/b/c"}, []string{"a/b/x", "a/x/b/c", "a/b/c/", "a/bb/x/c"}},
		{"**a*b/*c", []string{"ab/c", "ab/x/ab/c", "ab/ab/c", "a/ab/c", "aab/ab/xc"}, []string{"a/b/c", "ab/x/c", "ab/ab/x"}},
		{"*a**b*c", []string{"abc", "a/b/bc", "xaxbxbxc", "a/b/b/bxc"}, []string{"/abc", "ab/c", "b/abc"}},
		{"[a-z]", []string{"[a-z]"}, []string{"a", "z", "-"}},
		{"\\*", []string{"\\", "\\a", "\\*"}, []string{"*", "a"}},
		{"\xff*\x00", []string{"\xff\x00", "\xffé\x00"}, []string{"\xff/\x00", "\xff"}},
		{"%.o", []string{"%.o"}, []string{"a.o"}},
	} {
		for _, s := range x.fits {
			wantGlob(t, x.g, s, true)
		}
		for _, s := range x.not {
			wantGlob(t, x.g, s, false)
		}
	}
}

func TestGlobOfEachByte(t *testing.T) {
	for b := range 256 {
		s := string([]byte{byte(b)})
		for c := range 256 {
			wantGlob(t, string([]byte{byte(c)}), s, glob(string([]byte{byte(c)}), s))
		}
		for _, g := range []string{"?", "*", "**", "***", "", "*?", "?*", "**?"} {
			wantGlob(t, g, s, glob(g, s))
		}
	}
}

// All globs of some bytes against all texts of some bytes.
func TestGlobOfAllShortTexts(t *testing.T) {
	for _, x := range []struct {
		globs string
		n     int
		texts string
		m     int
	}{
		{"a*", 8, "a/", 6},
		{"a*/", 7, "a/", 6},
		{"a*/?", 6, "a/", 6},
		{"ab*", 6, "ab/", 5},
		{"ab*/?", 5, "ab/", 5},
		{"*?", 7, "a/?*", 4},
	} {
		t.Run(x.globs, func(t *testing.T) {
			t.Parallel()
			all(x.n, x.globs, func(g string) {
				all(x.m, x.texts, func(s string) {
					if got := path.Glob(g, s); got != glob(g, s) {
						t.Fatalf("Glob(%q, %q): %v", g, s, got)
					}
				})
			})
		})
	}
}

// some is a text of at most n of these pieces.
func some(r *rand.Rand, n int, pieces ...string) string {
	var s string
	for range r.Intn(n + 1) {
		s += pieces[r.Intn(len(pieces))]
	}
	return s
}

// filled is a text that a glob fits.
func filled(r *rand.Rand, g string) string {
	var s string
	for g != "" {
		n := 1
		switch {
		case strings.HasPrefix(g, "**"):
			n = 2
			s += some(r, 8, "a", "b", "/", "a/", "ab")
		case g[0] == '*':
			s += some(r, 5, "a", "b", "ab")
		case g[0] == '?':
			s += []string{"a", "b", "?", "*"}[r.Intn(4)]
		default:
			s += g[:1]
		}
		g = g[n:]
	}
	return s
}

// Longer ones, with stars of both kinds that must be gone back to: texts that fit, texts that nearly do, and any.
func TestGlobOfRandomTexts(t *testing.T) {
	for seed := range 4 {
		t.Run("", func(t *testing.T) {
			t.Parallel()
			r := rand.New(rand.NewSource(int64(seed)))
			for range 40000 {
				g := some(r, 12, "a", "b", "/", "?", "*", "*", "**", "a*", "*/", "ab")
				s := filled(r, g)
				wantGlob(t, g, s, true)
				if len(s) > 0 {
					at := r.Intn(len(s))
					near := s[:at] + []string{"", "a", "b", "/"}[r.Intn(4)] + s[at+r.Intn(2):]
					wantGlob(t, g, near, globByEnds(g, near))
				}
				s = some(r, 25, "a", "b", "/", "ab", "a/")
				wantGlob(t, g, s, globByEnds(g, s))
			}
		})
	}
}

// Long globs and texts: a program that tries each way of the stars in turn does not come to an end.
func TestGlobOfLongTexts(t *testing.T) {
	const n = 2000
	a, slashes, dirs := times(n, "a"), times(n, "/"), times(n, "ab/")
	cases := []struct {
		g, s string
		want bool
	}{
		{times(n, "*a"), a, true},
		{times(n, "*a") + "b", a, false},
		{times(n, "**a") + "b", a, false},
		{times(n, "**a") + "b", a + "b", true},
		{times(500, "*a") + "b", a + "b", true},
		{times(500, "*a") + "*b", a + "c", false},
		{times(500, "*a") + "*b", a + "cb", true},
		{times(500, "**a*") + "b", a + "b", true},
		{times(500, "**a*") + "b", a + "c", false},
		{times(500, "***") + "b", a + "b", true},
		{times(500, "***") + "b", a, false},
		{times(n, "?"), a, true},
		{times(n+1, "?"), a, false},
		{times(n, "?"), slashes, false},
		{"*" + times(n, "?"), a, true},
		{"**" + times(500, "*?"), a, true},
		{"**b", a + "b", true},
		{"**b", a, false},
		{"**a*b", a + "b", true},
		{"**a*b", a, false},
		{"**a*b", a + "/b", false},
		{"**a*a*a*b", a + "/" + a + "/b", false},
		{"**a*a*a*b", a + "/" + a + "/" + a + "b", true},
		{"**a*b/*c", dirs + "c", true},
		{"**a*b/*c", dirs, false},
		{"**a*b/*c", dirs + "d/c", false},
		{times(400, "**a*b/*"), dirs, true},
		{times(400, "**a*b/*") + "c", dirs, false},
		{times(400, "*b/") + "c", times(400, "ab/") + "c", true},
		{times(400, "*b/") + "c", times(401, "ab/") + "c", false},
		{"**" + times(400, "*b/") + "c", dirs + "c", true},
		{"**" + times(400, "*b/") + "c", dirs + "d", false},
		{"**" + times(n-1, "a") + "b", a, false},
		{"**" + times(500, "a") + "b", a + "b", true},
		{times(n, "**/"), slashes, true},
		{times(n+1, "**/"), slashes, false},
		{times(n, "*/"), slashes, true},
		{times(n+1, "*/"), slashes, false},
		{times(n, "**"), slashes, true},
		{times(n, "**") + "a", slashes, false},
		{a, a, true},
		{a, a + "a", false},
		{a + "a", a, false},
	}
	done := make(chan bool)
	go func() {
		defer close(done)
		for _, x := range cases {
			wantGlob(t, x.g, x.s, x.want)
		}
	}()
	select {
	case <-done:
	case <-time.After(60 * time.Second):
		t.Fatal("no end in sight")
	}
}

// P9.8

func TestGlobsBehindEachOther(t *testing.T) {
	globs := []string{"", "a", "*", "**", "?", "*a", "a*", "**a", "a**", "*/", "/*", "a?", "***", "*a*", "**/*", "ab"}
	texts := []string{"", "a", "b", "/", "ab", "aa", "a/", "/a", "a/b", "ab/a", "aab"}
	// Two globs side by side are read anew, from the left: a * and a * become a **, which fits more; so does ** behind a *.
	for _, g := range globs {
		for _, h := range globs {
			for _, s := range texts {
				for _, u := range texts {
					if path.Glob(g, s) && path.Glob(h, u) {
						wantGlob(t, g+h, s+u, true)
					}
				}
			}
		}
	}
	r := rand.New(rand.NewSource(1))
	for range 20000 {
		g, h := some(r, 6, "a", "b", "/", "?", "*", "**"), some(r, 6, "a", "b", "/", "?", "*", "**")
		wantGlob(t, g+h, filled(r, g)+filled(r, h), true)
	}
}

func TestTwoStarsFitAll(t *testing.T) {
	all(6, "a/*?", func(s string) { wantGlob(t, "**", s, true) })
	for b := range 256 {
		one := string([]byte{byte(b)})
		wantGlob(t, "**", one, true)
		wantGlob(t, "**", times(1000, one+"/"), true)
	}
	wantGlob(t, "**", times(1<<20, "/"), true)
}

func TestTextsFitThemselves(t *testing.T) {
	all(4, "ab/", func(g string) {
		all(4, "ab/*?", func(s string) { wantGlob(t, g, s, g == s) })
	})
	for b := range 256 {
		for c := range 256 {
			if b != '*' && b != '?' {
				wantGlob(t, string([]byte{byte(b)}), string([]byte{byte(c)}), b == c)
			}
		}
	}
	wantGlob(t, times(1<<20, "/"), times(1<<20, "/"), true)
	wantGlob(t, times(1<<20, "/"), times(1<<20, "/")+"a", false)
	wantGlob(t, times(1<<20, "/")+"a", times(1<<20, "/"), false)
}
