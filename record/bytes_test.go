package record_test

import (
	"strings"
	"testing"

	"brickyard/api"
	"brickyard/record"
	"brickyard/wire"
)

// P17.2: the chapter's examples.
func TestExampleBytes(t *testing.T) {
	if s, e := record.Put(chapterTrace()); s != chapterBytes || e != api.OK {
		t.Errorf("Put: %x, %d", s, e)
	}
	if x, e := record.Get(chapterBytes); !sameByWords(x, chapterTrace()) || e != api.OK {
		t.Errorf("Get: %v, %d", x, e)
	}
	for _, s := range []string{chapterBytes[:len(chapterBytes)-1], chapterBytes + "\x00", chapterBytes + "o", chapterBytes + chapterBytes} {
		if x, e := record.Get(s); !isZero(x) || e != api.ErrBytes {
			t.Errorf("%x: %v, %d", s, x, e)
		}
	}
	twice, none := chapterTrace(), chapterTrace()
	twice.Needs = append(twice.Needs, has("a", "x"))
	none.Outs = nil
	for _, x := range []api.Trace{twice, none} {
		if e := record.Check(x); e != api.ErrArg {
			t.Errorf("Check of %v: %d", x, e)
		}
	}
}

// P17.2, P17.5: right traces' bytes: whole, cut, with one more, each byte changed.
func TestGetOfChangedBytes(t *testing.T) {
	for _, x := range rightSamples() {
		s, e := record.Put(x.trace)
		if e != api.OK {
			t.Fatalf("%s: %d", x.name, e)
		}
		if got, e := record.Get(s); !sameByWords(got, x.trace) || e != api.OK {
			t.Errorf("%s: %v, %d", x.name, got, e)
		}
		for n := range len(s) {
			if got, e := record.Get(s[:n]); !isZero(got) || e != api.ErrBytes {
				t.Errorf("%s: cut at %d: %v, %d", x.name, n, got, e)
			}
		}
		for b := range 256 {
			if got, e := record.Get(s + string([]byte{byte(b)})); !isZero(got) || e != api.ErrBytes {
				t.Errorf("%s: with %d: %v, %d", x.name, b, got, e)
			}
		}
		changeEach(t, s)
	}
}

// changeEach gets bytes with each byte changed: to all others, if there are few; else by some.
func changeEach(t *testing.T, s string) {
	t.Helper()
	for i := range s {
		b := []byte(s)
		for n := 1; n < 256; n++ {
			if len(s) > 100 && n != 1 && n != 128 && n != 255 {
				continue
			}
			b[i] = s[i] + byte(n)
			checkGet(t, string(b))
		}
	}
}

// P17.2: what is not written as it must be, part by part.
func TestGetOfWrongBytes(t *testing.T) {
	job, needs, outs := "\x01j", "\x02\x01a\x01\x01x\x01b\x00", "\x01\x01o"
	if s := "\x01" + job + needs + outs; s != chapterBytes {
		t.Fatalf("the parts are %x", s)
	}
	long := repeat(300)
	for name, s := range map[string]string{
		"no bytes":                        "",
		"the byte 1 alone":                "\x01",
		"the byte 0 first":                "\x00" + job + needs + outs,
		"the byte 2 first":                "\x02" + job + needs + outs,
		"the byte 255 first":              "\xff" + job + needs + outs,
		"1 in two bytes first":            "\x81\x00" + job + needs + outs,
		"no first byte":                   job + needs + outs,
		"a first byte more":               "\x01\x01" + job + needs + outs,
		"job's length in two bytes":       "\x01\x81\x00j" + needs + outs,
		"job's length in three bytes":     "\x01\x81\x80\x00j" + needs + outs,
		"job's length above what is left": "\x01\x7fj" + needs + outs,
		"job's length is huge":            "\x01\xff\xff\xff\xff\xff\xff\xff\xff\xff\x01j" + needs + outs,
		"job's length is above all":       "\x01\xff\xff\xff\xff\xff\xff\xff\xff\xff\x02j" + needs + outs,
		"a job that is too long":          "\x01" + textByWords(repeat(513)) + needs + outs,
		"no needs' count":                 "\x01" + job,
		"needs' count in two bytes":       "\x01" + job + "\x82\x00" + needs[1:] + outs,
		"needs' count of one more":        "\x01" + job + "\x03" + needs[1:] + outs,
		"needs' count of one less":        "\x01" + job + "\x01" + needs[1:] + outs,
		"needs' count is huge":            "\x01" + job + "\xff\xff\xff\xff\xff\xff\xff\xff\xff\x01" + needs[1:] + outs,
		"nine needs":                      bytesByWords(api.Trace{Needs: manyNeeds(9), Outs: []string{""}}),
		"eight needs, and few bytes":      "\x01" + job + "\x08\x01a\x00",
		"a path's length in two bytes":    "\x01" + job + "\x01\x81\x00a\x00" + outs,
		"a path's length above":           "\x01" + job + "\x01\x40a\x00" + outs,
		"a path of no bytes":              "\x01" + job + "\x01\x00\x00" + outs,
		"a long path":                     "\x01" + job + "\x01" + textByWords(strings.Repeat("a/", 30)+"a") + "\x00" + outs,
		"a byte 2 for Have":               "\x01" + job + "\x01\x01a\x02" + outs,
		"a byte 2 for Have, a content":    "\x01" + job + "\x01\x01a\x02\x01x" + outs,
		"a byte 255 for Have":             "\x01" + job + "\x01\x01a\xff\x01x" + outs,
		"Have in two bytes":               "\x01" + job + "\x01\x01a\x81\x00\x01x" + outs,
		"no Have in two bytes":            "\x01" + job + "\x01\x01a\x80\x00" + outs,
		"a content where none may be":     "\x01" + job + "\x01\x01a\x00\x01x" + outs,
		"no content where one must be":    "\x01" + job + "\x01\x01a\x01" + outs,
		"a content's length in two bytes": "\x01" + job + "\x01\x01a\x01\x80\x00" + outs,
		"a long content":                  "\x01" + job + "\x01\x01a\x01" + textByWords(repeat(257)) + outs,
		"needs alike":                     "\x01" + job + "\x02\x01a\x00\x01a\x00" + outs,
		"needs alike but for a content":   "\x01" + job + "\x02\x01a\x00\x01a\x01\x00" + outs,
		"no outs' count":                  "\x01" + job + needs,
		"no outs":                         "\x01" + job + needs + "\x00",
		"no outs, in two bytes":           "\x01" + job + needs + "\x80\x00",
		"outs' count in two bytes":        "\x01" + job + needs + "\x81\x00\x01o",
		"outs' count of one more":         "\x01" + job + needs + "\x02\x01o",
		"outs' count of one less":         "\x01" + job + needs + "\x01\x01o\x01o",
		"outs' count is huge":             "\x01" + job + needs + "\xff\xff\xff\xff\xff\xff\xff\xff\xff\x01\x01o",
		"five outs":                       "\x01" + job + needs + "\x05\x00\x00\x00\x00\x00",
		"an out's length in two bytes":    "\x01" + job + needs + "\x01\x81\x00o",
		"an out's length above":           "\x01" + job + needs + "\x01\x02o",
		"a long out":                      "\x01" + job + needs + "\x01" + textByWords(repeat(257)),
		"outs ahead of needs":             "\x01" + job + outs + needs,
		"all that is long":                "\x01" + textByWords(long+long) + "\x01" + textByWords(long) + "\x01" + textByWords(long) + "\x01" + textByWords(long),
		"very many bytes 1":               strings.Repeat("\x01", 1<<20),
		"very many bytes 255":             strings.Repeat("\xff", 1<<20),
		"very many bytes behind":          chapterBytes + strings.Repeat("\x00", 1<<20),
		"very many bytes 0":               strings.Repeat("\x00", 1<<16),
	} {
		if x, e := record.Get(s); !isZero(x) || e != api.ErrBytes {
			t.Errorf("%s: %v, %d", name, x, e)
		}
		checkGet(t, s)
	}
}

// P17.2: the bytes of traces that are not right. (A content without Have does not come into them.)
func TestGetOfTracesNotRight(t *testing.T) {
	for _, x := range wrongSamples() {
		s := bytesByWords(x.trace)
		checkGet(t, s)
		if got, e := record.Get(s); e != api.ErrBytes && !strings.Contains(x.name, "without Have") {
			t.Errorf("%s: %v, %d", x.name, got, e)
		}
	}
}

// P17.2: a trace's bytes as chapter 1's calls put them together.
func TestPutByWire(t *testing.T) {
	x := greatest()
	b := append([]byte{1}, wire.PutText(x.Job)...)
	b = append(b, 8)
	for _, n := range x.Needs {
		b = append(append(append(b, wire.PutText(n.Path)...), 1), wire.PutText(n.Content)...)
	}
	b = append(b, wire.PutList(x.Outs...)...)
	if s, e := record.Put(x); s != string(b) || e != api.OK {
		t.Errorf("%x, %d, want %x", s, e, b)
	}
}

// P17.2, R3: Needs are nil where there are none.
func TestGetNilNeeds(t *testing.T) {
	x, e := record.Get("\x01\x00\x00\x01\x00")
	if x.Job != "" || x.Needs != nil || len(x.Outs) != 1 || x.Outs[0] != "" || e != api.OK {
		t.Errorf("%#v, %d", x, e)
	}
}

// P17.5: no two right traces that are not the same have the same bytes.
func TestBytesAreUnlike(t *testing.T) {
	l := append(rightSamples(), neighbours()...)
	for i, x := range l {
		for _, y := range l[:i] {
			s, e := record.Put(x.trace)
			z, e2 := record.Put(y.trace)
			if (s == z) != record.Same(x.trace, y.trace) || e != api.OK || e2 != api.OK {
				t.Errorf("%s, %s: %x, %x", x.name, y.name, s, z)
			}
		}
	}
}

// P17.6: the most bytes that a right trace has.
func TestRoom(t *testing.T) {
	s, e := record.Put(greatest())
	// Of the job 514, a count 1, eight times a need of 320, a count 1, four times an out of 258, and the first byte.
	if want := 1 + 514 + 1 + 8*(61+1+258) + 1 + 4*258; len(s) != want || want > api.MaxValue || e != api.OK {
		t.Errorf("%d bytes, %d, want %d", len(s), e, want)
	}
	for _, x := range rightSamples() {
		if y, e := record.Put(x.trace); len(y) > len(s) || e != api.OK {
			t.Errorf("%s: %d bytes, %d", x.name, len(y), e)
		}
	}
}
