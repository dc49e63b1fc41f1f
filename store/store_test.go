package store_test

import (
	"fmt"
	"maps"
	"math"
	"slices"
	"strings"
	"testing"

	"brickyard/api"
	"brickyard/disk"
	"brickyard/pager"
	"brickyard/store"
)

const (
	kept    = 67  // blocks of a device that are no pages of the store
	perPage = 238 // bytes of a value that a page of a chain has
)

func device(t *testing.T, blocks int) *disk.Disk {
	t.Helper()
	d, e := disk.New(blocks)
	if e != api.OK {
		t.Fatalf("New(%d): %d", blocks, e)
	}
	return d
}

func open(t *testing.T, d *disk.Disk) *store.Store {
	t.Helper()
	s, e := store.Open(d)
	if s == nil || e != api.OK {
		t.Fatalf("Open: %v, %d", s, e)
	}
	return s
}

func fresh(t *testing.T, blocks int) (*disk.Disk, *store.Store) {
	t.Helper()
	d := device(t, blocks)
	if e := store.Format(d); e != api.OK {
		t.Fatalf("Format: %d", e)
	}
	return d, open(t, d)
}

func crash(t *testing.T, d *disk.Disk) {
	t.Helper()
	if e := d.Crash(nil, 0); e != api.OK {
		t.Fatalf("Crash: %d", e)
	}
}

// reopened is the store of the device behind a crash that keeps nothing of what was not flushed.
func reopened(t *testing.T, d *disk.Disk) *store.Store {
	t.Helper()
	crash(t, d)
	return open(t, d)
}

func put(space int, key, value string) api.Change {
	return api.Change{Space: space, Key: key, Value: value}
}

func gone(space int, key string) api.Change {
	return api.Change{Space: space, Key: key, Delete: true}
}

func apply(t *testing.T, s *store.Store, batch ...api.Change) {
	t.Helper()
	if e := s.Apply(batch...); e != api.OK {
		t.Fatalf("Apply of %d changes: %d", len(batch), e)
	}
}

func clearAll(t *testing.T, s *store.Store) {
	t.Helper()
	for i := range api.MaxRoots {
		wantErr(t, "Clear", s.Clear(i), api.OK)
	}
}

// text is n bytes, which tell where in it they stand.
func text(n int) string {
	b := make([]byte, n)
	for i := range b {
		b[i] = byte(i*7 + i/251 + n)
	}
	return string(b)
}

// long is a key of MaxKey bytes that begins with s.
func long(s string) string { return s + strings.Repeat("~", api.MaxKey-len(s)) }

func wantErr(t *testing.T, call string, got, want api.Errno) {
	t.Helper()
	if got != want {
		t.Errorf("%s: %d, want %d", call, got, want)
	}
}

func wantGet(t *testing.T, s *store.Store, space int, key, want string) {
	t.Helper()
	if v, e := s.Get(space, key); v != want || e != api.OK {
		t.Errorf("Get(%d, %.80q): %d bytes, %d, want %d bytes", space, key, len(v), e, len(want))
	}
}

func wantNoGet(t *testing.T, s *store.Store, space int, key string, want api.Errno) {
	t.Helper()
	if v, e := s.Get(space, key); v != "" || e != want {
		t.Errorf("Get(%d, %.80q): %q, %d, want the error %d", space, key, v, e, want)
	}
}

func wantNext(t *testing.T, s *store.Store, space int, from, key, value string) {
	t.Helper()
	if k, v, e := s.Next(space, from); k != key || v != value || e != api.OK {
		t.Errorf("Next(%d, %.80q): %.80q, %d bytes, %d, want %.80q", space, from, k, len(v), e, key)
	}
}

func wantNoNext(t *testing.T, s *store.Store, space int, from string, want api.Errno) {
	t.Helper()
	if k, v, e := s.Next(space, from); k != "" || v != "" || e != want {
		t.Errorf("Next(%d, %.80q): %q, %q, %d, want the error %d", space, from, k, v, e, want)
	}
}

func wantFrom(t *testing.T, s *store.Store, space int, from string, want ...string) {
	t.Helper()
	var got []string
	for k := range s.From(space, from) {
		got = append(got, k)
	}
	if !slices.Equal(got, want) {
		t.Errorf("From(%d, %.80q): %.80q, want %.80q", space, from, got, want)
	}
}

func wantCount(t *testing.T, s *store.Store, space, want int) {
	t.Helper()
	if n, e := s.Count(space); n != want || e != api.OK {
		t.Errorf("Count(%d): %d, %d, want %d", space, n, e, want)
	}
}

func wantNoCount(t *testing.T, s *store.Store, space int, want api.Errno) {
	t.Helper()
	if n, e := s.Count(space); n != 0 || e != want {
		t.Errorf("Count(%d): %d, %d, want the error %d", space, n, e, want)
	}
}

func wantRoom(t *testing.T, s *store.Store, want int) {
	t.Helper()
	if n := s.Room(); n != want {
		t.Errorf("Room: %d, want %d", n, want)
	}
}

// state is what the chapter says a store's state is, by spaces and keys.
type state [api.MaxRoots]map[string]string

// with is the state behind the batch.
func (x state) with(batch ...api.Change) state {
	for i := range x {
		x[i] = maps.Clone(x[i])
	}
	for _, c := range batch {
		if x[c.Space] == nil {
			x[c.Space] = map[string]string{}
		}
		x[c.Space][c.Key] = c.Value
		if c.Delete {
			delete(x[c.Space], c.Key)
		}
	}
	return x
}

func (x state) equals(y state) bool {
	for i := range x {
		if !maps.Equal(x[i], y[i]) {
			return false
		}
	}
	return true
}

// String is the keys of each space, each with how long its value is.
func (x state) String() string {
	var b strings.Builder
	for i, space := range x {
		for _, k := range slices.Sorted(maps.Keys(space)) {
			fmt.Fprintf(&b, "%d %.10q: %d; ", i, k, len(space[k]))
		}
	}
	return b.String()
}

// whole is what From tells of all spaces.
func whole(s *store.Store) (x state) {
	for i := range x {
		x[i] = map[string]string{}
		for k, v := range s.From(i, "") {
			x[i][k] = v
		}
	}
	return x
}

// wantState asks for all that the store says of its spaces, and holds it against the state.
func wantState(t *testing.T, d *disk.Disk, s *store.Store, want state) {
	t.Helper()
	chains, least, most := 0, 0, 0
	for i, space := range want {
		keys := slices.Sorted(maps.Keys(space))
		wantFrom(t, s, i, "", keys...)
		wantCount(t, s, i, len(keys))
		at := ""
		for _, k := range keys {
			wantNext(t, s, i, at, k, space[k])
			wantGet(t, s, i, k, space[k])
			at = k + "\x00"
			chains += pagesOf(space[k])
		}
		wantNoNext(t, s, i, at, api.ErrNone)
		wantNoGet(t, s, i, "no key", api.ErrNone)
		least += min(len(keys), 1)
		most += 2 * len(keys)
	}
	// A tree without keys has no nodes, another one at least one, and at most twice as many as keys.
	if nodes := d.Size() - kept - chains - s.Room(); nodes < least || nodes > most {
		t.Errorf("Room: %d, which leaves %d pages for nodes, want from %d to %d", s.Room(), nodes, least, most)
	}
	if t.Failed() {
		t.Fatalf("want %v", want)
	}
}

// pagesOf is how many pages a value's chain has.
func pagesOf(value string) int {
	if len(value) <= api.MaxInline {
		return 0
	}
	return (len(value) + perPage - 1) / perPage
}

// some is a state of three spaces, made by three batches; a value of it stands in a chain.
func some(t *testing.T, s *store.Store) state {
	t.Helper()
	var x state
	for _, batch := range [][]api.Change{
		{put(0, "a", "x"), put(0, "c", text(40)), put(1, "a", "y")},
		{put(0, "e", ""), put(7, "c", text(300)), gone(1, "z")},
		{put(1, "b", text(32)), put(0, "g", "z"), gone(0, "e")},
	} {
		apply(t, s, batch...)
		x = x.with(batch...)
	}
	return x
}

var wrongSpaces = []int{-1, api.MaxRoots, api.MaxRoots + 1, math.MinInt, math.MaxInt, 256}

var wrongKeys = []string{"", strings.Repeat("k", api.MaxKey+1), strings.Repeat("\x00", 5000)}

// The chapter's examples.
func TestExamples(t *testing.T) {
	d := device(t, 80)
	wantErr(t, "Format", store.Format(d), api.OK)
	s := open(t, d)
	wantRoom(t, s, 13)
	wantNoGet(t, s, 0, "a", api.ErrNone)
	wantErr(t, "Apply", s.Apply(put(0, "a", "x"), put(1, "a", "y"), put(0, "b", "z")), api.OK)
	wantGet(t, s, 1, "a", "y")
	wantNext(t, s, 0, "aa", "b", "z")
	wantCount(t, s, 0, 2)
	wantErr(t, "Apply", s.Apply(gone(0, "a"), put(8, "a", "x")), api.ErrRange)
	wantGet(t, s, 0, "a", "x")
	wantErr(t, "Apply", s.Apply(gone(0, "a"), gone(0, "c")), api.OK)
	wantNoGet(t, s, 0, "a", api.ErrNone)
	wantErr(t, "Clear", s.Clear(0), api.OK)
	wantErr(t, "Clear", s.Clear(1), api.OK)
	wantRoom(t, s, 13)
}

// P8.1

func TestFormat(t *testing.T) {
	wantErr(t, "Format of nil", store.Format(nil), api.ErrNil)
	for _, blocks := range []int{api.MinBlocks, 81, 200, api.MaxBlocks} {
		d := device(t, blocks)
		wantErr(t, "Format", store.Format(d), api.OK)
		wantState(t, d, reopened(t, d), state{})
	}
}

func TestFormatOfAUsedDevice(t *testing.T) {
	d, s := fresh(t, 80)
	some(t, s)
	wantErr(t, "Format", store.Format(d), api.OK)
	s = reopened(t, d)
	wantState(t, d, s, state{})
	wantRoom(t, s, 13)
	apply(t, s, put(3, "a", "x"))
	wantState(t, d, reopened(t, d), state{}.with(put(3, "a", "x")))
}

// Format and Open answer what the pager's answer of a device with the same fault.
func TestFormatAndOpenMeetFaults(t *testing.T) {
	for _, fault := range faults {
		for _, at := range []int{0, 1, 40, 79, 80, 81, 82, 83, 200} {
			d := device(t, 80)
			d.Fail(at, fault)
			wantErr(t, "Format", store.Format(d), pager.Format(twin(t, at, fault)))
			crash(t, d)
			wantErr(t, "Format again", store.Format(d), api.OK)
			wantState(t, d, open(t, d), state{})
		}
		base, s := fresh(t, 80)
		want := some(t, s)
		met := 0
		for at := 0; ; at++ {
			d, twin := base.Copy(), base.Copy()
			d.Fail(at, fault)
			twin.Fail(at, fault)
			s, e := store.Open(d)
			_, f := pager.Open(twin)
			wantErr(t, "Open", e, f)
			if (s == nil) == (e == api.OK) {
				t.Errorf("Open: %v, %d", s, e)
			}
			if e == api.OK {
				break
			}
			met++
			wantErr(t, "Open", e, fault)
			wantState(t, d, open(t, d), want)
		}
		if met == 0 {
			t.Error("no Open met a fault")
		}
	}
	d := device(t, 80)
	d.Cut(5)
	wantErr(t, "Format", store.Format(d), api.ErrPower)
	wantNoOpen(t, d, api.ErrPower)
}

// twin is a new device with the fault.
func twin(t *testing.T, at int, fault api.Errno) *disk.Disk {
	t.Helper()
	d := device(t, 80)
	d.Fail(at, fault)
	return d
}

func wantNoOpen(t *testing.T, d *disk.Disk, want api.Errno) {
	t.Helper()
	if s, e := store.Open(d); s != nil || e != want {
		t.Errorf("Open: %v, %d, want %d", s, e, want)
	}
}

func TestOpen(t *testing.T) {
	wantNoOpen(t, nil, api.ErrNil)
	for _, blocks := range []int{api.MinBlocks, 200, api.MaxBlocks} {
		wantNoOpen(t, device(t, blocks), api.ErrBlank)
	}
	if d, e := disk.New(api.MinBlocks - 1); d != nil || e != api.ErrArg {
		t.Errorf("New: %v, %d", d, e)
	}
	d, s := fresh(t, 80)
	want := some(t, s)
	wantState(t, d, s, want)
	wantState(t, d, open(t, d), want)
	wantState(t, d, reopened(t, d), want)
}

// P8.2

func TestNilStore(t *testing.T) {
	var s *store.Store
	for _, space := range append(wrongSpaces, 0) {
		for _, key := range append(wrongKeys, "a") {
			wantNoGet(t, s, space, key, api.ErrNil)
			wantNoNext(t, s, space, key, api.ErrNil)
			wantFrom(t, s, space, key)
			wantErr(t, "Apply", s.Apply(put(space, key, text(5000))), api.ErrNil)
		}
		wantErr(t, "Clear", s.Clear(space), api.ErrNil)
		wantNoCount(t, s, space, api.ErrNil)
	}
	wantErr(t, "Apply", s.Apply(), api.ErrNil)
	wantRoom(t, s, 0)
}

func TestGet(t *testing.T) {
	d, s := fresh(t, 200)
	var want state
	for i, n := range []int{0, 1, api.MaxInline, api.MaxInline + 1, perPage, perPage + 1, 2400, api.MaxValue} {
		c := put(i%api.MaxRoots, "k", text(n))
		apply(t, s, c)
		want = want.with(c)
		wantGet(t, s, i, "k", text(n))
	}
	for i, k := range []string{"\x00", "\xff", "\xff\xff", long("a"), "a b\nc", "é", "no\x00key"} {
		apply(t, s, put(0, k, text(i)))
		want = want.with(put(0, k, text(i)))
	}
	wantState(t, d, s, want)
	wantState(t, d, reopened(t, d), want)
}

func TestGetOfWrongKeys(t *testing.T) {
	_, s := fresh(t, 80)
	some(t, s)
	for _, key := range wrongKeys {
		wantNoGet(t, s, 0, key, api.ErrArg)
		for _, space := range wrongSpaces {
			wantNoGet(t, s, space, key, api.ErrRange)
		}
	}
	for _, space := range wrongSpaces {
		wantNoGet(t, s, space, "a", api.ErrRange)
		wantNoNext(t, s, space, "", api.ErrRange)
		wantNoNext(t, s, space, "a", api.ErrRange)
		wantFrom(t, s, space, "")
		wantNoCount(t, s, space, api.ErrRange)
	}
	for _, key := range []string{"b", "aa", "A", "\x00", long("a")} {
		wantNoGet(t, s, 0, key, api.ErrNone)
	}
	wantNoGet(t, s, 5, "a", api.ErrNone)
}

func TestNextAndFrom(t *testing.T) {
	_, s := fresh(t, 80)
	some(t, s)
	for _, x := range []struct {
		from string
		keys []string
	}{
		{"", []string{"a", "c", "g"}},
		{"A", []string{"a", "c", "g"}},
		{"a", []string{"a", "c", "g"}},
		{"a\x00", []string{"c", "g"}},
		{"b", []string{"c", "g"}},
		{"c", []string{"c", "g"}},
		{strings.Repeat("c", 1000), []string{"g"}},
		{"g", []string{"g"}},
		{"g\x00", nil},
		{"\xff", nil},
		{strings.Repeat("\xff", 100), nil},
	} {
		wantFrom(t, s, 0, x.from, x.keys...)
		if len(x.keys) == 0 {
			wantNoNext(t, s, 0, x.from, api.ErrNone)
			continue
		}
		v, _ := s.Get(0, x.keys[0])
		wantNext(t, s, 0, x.from, x.keys[0], v)
	}
	wantNext(t, s, 7, "", "c", text(300))
	wantNoNext(t, s, 6, "", api.ErrNone)
	wantFrom(t, s, 6, "")
}

func TestFromIsLeftEarlyAndGoneThroughAgain(t *testing.T) {
	d, s := fresh(t, 80)
	want := some(t, s)
	all := s.From(0, "")
	for n := range 4 {
		var got []string
		for k, v := range all {
			if n == len(got) {
				break
			}
			got = append(got, k)
			if v != want[0][k] {
				t.Errorf("%q: %d bytes", k, len(v))
			}
		}
		if !slices.Equal(got, []string{"a", "c", "g"}[:n]) {
			t.Errorf("From: %q", got)
		}
	}
	apply(t, s, gone(0, "a"), put(0, "b", "y"))
	var got []string
	for k := range all {
		got = append(got, k)
	}
	if !slices.Equal(got, []string{"b", "c", "g"}) {
		t.Errorf("From: %q", got)
	}
	wantState(t, d, s, want.with(gone(0, "a"), put(0, "b", "y")))
}

// What batches do meanwhile is seen from the next key on; a batch that is refused is not seen.
func TestFromWithBatchesMeanwhile(t *testing.T) {
	d, s := fresh(t, 80)
	want := some(t, s)
	var got []string
	for k, v := range s.From(0, "") {
		got = append(got, k+v)
		switch k {
		case "a":
			apply(t, s, gone(0, "c"), gone(0, "a"), put(0, "b", "1"), put(1, "c", "2"))
		case "b":
			wantErr(t, "Apply", s.Apply(put(0, "d", "3"), put(0, "e", text(4000))), api.ErrFull)
			wantErr(t, "Apply", s.Apply(put(0, "d", "3"), put(0, "", "x")), api.ErrArg)
			apply(t, s, put(0, "a", "4"), put(0, "g", "5"))
		case "g":
			apply(t, s, put(0, "h", "6"))
		case "h":
			wantErr(t, "Clear", s.Clear(0), api.OK)
		}
	}
	if !slices.Equal(got, []string{"ax", "b1", "g5", "h6"}) {
		t.Errorf("From: %q", got)
	}
	want[0] = nil
	wantState(t, d, s, want.with(put(1, "c", "2")))
}

// P8.3

func TestApplyOfNone(t *testing.T) {
	d, s := fresh(t, 80)
	want := some(t, s)
	room, ops := s.Room(), d.Ops()
	wantErr(t, "Apply", s.Apply(), api.OK)
	wantErr(t, "Apply", s.Apply([]api.Change{}...), api.OK)
	if d.Ops() != ops {
		t.Errorf("%d operations", d.Ops()-ops)
	}
	d.Cut(0)
	wantErr(t, "Apply without power", s.Apply(), api.OK)
	wantRoom(t, s, room)
	wantState(t, d, reopened(t, d), want)
}

func TestApply(t *testing.T) {
	for _, x := range []struct {
		name  string
		batch []api.Change
	}{
		{"a put", []api.Change{put(0, "b", "1")}},
		{"a put in an empty space", []api.Change{put(5, "b", "1")}},
		{"a put again", []api.Change{put(0, "a", "1")}},
		{"a longer value", []api.Change{put(0, "a", text(500))}},
		{"a shorter value", []api.Change{put(7, "c", "")}},
		{"a delete", []api.Change{gone(0, "c")}},
		{"a delete of what is not there", []api.Change{gone(0, "b")}},
		{"a delete in an empty space", []api.Change{gone(4, "b")}},
		{"deletes of the same key", []api.Change{gone(0, "a"), gone(0, "a")}},
		{"deletes of all keys of a space", []api.Change{gone(1, "b"), gone(1, "a")}},
		{"one key more than once", []api.Change{put(0, "a", "1"), put(0, "a", text(60)), put(0, "a", "2")}},
		{"put, deleted", []api.Change{put(2, "b", "1"), gone(2, "b")}},
		{"put, deleted, put", []api.Change{put(0, "b", "1"), gone(0, "b"), put(0, "b", text(50))}},
		{"deleted, put, deleted", []api.Change{gone(0, "a"), put(0, "a", text(50)), gone(0, "a")}},
		{"one key in many spaces", []api.Change{put(0, "k", "0"), put(1, "k", "1"), put(6, "k", "6"), gone(7, "k"), put(7, "k", "7")}},
		{"of all kinds", []api.Change{gone(0, "a"), put(3, "a", text(33)), gone(7, "c"), put(0, "h", text(32)), put(1, "a", ""), gone(1, "b")}},
	} {
		t.Run(x.name, func(t *testing.T) {
			d, s := fresh(t, 90)
			want := some(t, s).with(x.batch...)
			wantErr(t, "Apply", s.Apply(x.batch...), api.OK)
			wantState(t, d, s, want)
			wantState(t, d, reopened(t, d), want)
		})
	}
}

// Keys and values at the limits, and a Delete whose value says nothing.
func TestApplyAtTheLimits(t *testing.T) {
	d, s := fresh(t, 200)
	var want state
	for i, n := range []int{0, api.MaxInline, api.MaxInline + 1, 2400, api.MaxValue} {
		batch := []api.Change{put(0, fmt.Sprint(i), text(n)), put(7, long(fmt.Sprint(i)), "x"), gone(6, fmt.Sprint(i))}
		apply(t, s, batch...)
		want = want.with(batch...)
	}
	wantState(t, d, s, want)
	wantErr(t, "Apply", s.Apply(put(0, "a", text(api.MaxValue+1))), api.ErrLong)
	wantState(t, d, s, want)
	for i, n := range []int{0, 10, api.MaxValue, api.MaxValue + 1, 9000} {
		c := gone(0, fmt.Sprint(i))
		want = want.with(c)
		c.Value = text(n)
		apply(t, s, c)
		wantState(t, d, s, want)
	}
	wantState(t, d, reopened(t, d), want)
}

// Many small changes in one batch: of the same keys, so that few pages are touched.
func TestApplyOfMany(t *testing.T) {
	d, s := fresh(t, 120)
	var batch []api.Change
	for i := range 3000 {
		c := put(i%3, string(rune('a'+i*i%11)), text(i%70))
		c.Delete = i%5 == 4
		batch = append(batch, c)
	}
	apply(t, s, batch...)
	want := state{}.with(batch...)
	wantState(t, d, s, want)
	wantState(t, d, reopened(t, d), want)
}

// Two batches come to what the batch of both comes to.
func TestTwoBatchesAsOne(t *testing.T) {
	batches := [][]api.Change{
		nil,
		{put(0, "a", "1")},
		{gone(0, "a"), put(0, "b", text(100))},
		{put(1, "a", text(40)), gone(0, "b"), put(0, "a", "2")},
		{gone(7, "c"), gone(1, "a"), put(0, "c", "")},
	}
	for _, x := range batches {
		for _, y := range batches {
			d, s := fresh(t, 90)
			want := some(t, s)
			apply(t, s, x...)
			apply(t, s, y...)
			one, r := fresh(t, 90)
			some(t, r)
			apply(t, r, append(slices.Clone(x), y...)...)
			want = want.with(x...).with(y...)
			wantState(t, d, s, want)
			wantState(t, one, r, want)
			wantState(t, one, reopened(t, one), want)
		}
	}
}

// wrong are changes that are wrong, and the error that each is answered.
var wrong = []struct {
	c api.Change
	e api.Errno
}{
	{put(-1, "a", "x"), api.ErrRange},
	{put(api.MaxRoots, "a", "x"), api.ErrRange},
	{gone(math.MinInt, "a"), api.ErrRange},
	{gone(math.MaxInt, "a"), api.ErrRange},
	{put(-1, "", text(api.MaxValue+1)), api.ErrRange},
	{gone(api.MaxRoots, ""), api.ErrRange},
	{put(0, "", "x"), api.ErrArg},
	{put(7, strings.Repeat("k", api.MaxKey+1), "x"), api.ErrArg},
	{put(0, "", text(api.MaxValue+1)), api.ErrArg},
	{gone(0, ""), api.ErrArg},
	{gone(0, strings.Repeat("k", api.MaxKey+1)), api.ErrArg},
	{put(0, "a", text(api.MaxValue+1)), api.ErrLong},
	{put(7, "z", text(3*api.MaxValue)), api.ErrLong},
}

// A wrong change, wherever it stands in the batch, and also where the batch has no room and the power is off: nothing of
// the batch is done. Of two wrong ones the first is answered.
func TestWrongChanges(t *testing.T) {
	d, s := fresh(t, 80)
	want := some(t, s)
	wantState(t, d, s, want)
	d.Cut(0)
	right := []api.Change{put(0, "a", "1"), gone(1, "a"), put(2, "b", text(4608)), gone(0, "zz")}
	for _, x := range wrong {
		wantErr(t, "Apply", s.Apply(x.c), x.e)
		for at := range len(right) + 1 {
			batch := slices.Insert(slices.Clone(right), at, x.c)
			wantErr(t, "Apply", s.Apply(batch...), x.e)
		}
		for _, y := range wrong {
			wantErr(t, "Apply", s.Apply(put(0, "a", "1"), x.c, gone(0, "c"), y.c), x.e)
		}
	}
	wantState(t, d, reopened(t, d), want)
}

// The list that is handed in is neither changed nor kept.
func TestBatchIsNotKept(t *testing.T) {
	d, s := fresh(t, 80)
	room := []api.Change{put(0, "b", text(40)), gone(0, "b"), put(0, "c", "1"), put(0, "x", "behind")}
	batch := room[:3]
	copied := slices.Clone(room)
	apply(t, s, batch...)
	if !slices.Equal(room, copied) {
		t.Errorf("the batch is %v", room)
	}
	for i := range room {
		room[i] = put(5, "z", "z")
	}
	wantState(t, d, s, state{}.with(copied[:3]...))
	wantState(t, d, reopened(t, d), state{}.with(copied[:3]...))
}

// P8.4

func TestClear(t *testing.T) {
	d, s := fresh(t, 300)
	want := some(t, s)
	for i := range 200 {
		c := put(4, fmt.Sprint(i), text(i%60))
		apply(t, s, c)
		want = want.with(c)
	}
	wantState(t, d, s, want)
	for _, space := range wrongSpaces {
		wantErr(t, "Clear", s.Clear(space), api.ErrRange)
	}
	for _, space := range []int{5, 4, 4, 0, 7, 1, 2} {
		wantErr(t, "Clear", s.Clear(space), api.OK)
		want[space] = nil
		wantState(t, d, s, want)
		wantState(t, d, open(t, d.Copy()), want)
	}
	wantRoom(t, s, 300-kept)
	wantState(t, d, reopened(t, d), want)
}

// P8.5

func TestCountAndRoom(t *testing.T) {
	d, s := fresh(t, 80)
	wantRoom(t, s, 13)
	for i, x := range []struct {
		c           api.Change
		count, room int
	}{
		{put(2, "a", "x"), 1, 12},
		{put(2, "a", text(33)), 1, 11},
		{put(2, "a", text(238)), 1, 11},
		{put(2, "a", text(239)), 1, 10},
		{put(2, "b", ""), 2, 10},
		{put(2, "b", text(32)), 2, 10},
		{put(3, "b", text(2000)), 2, 0},
		{gone(3, "a"), 2, 0},
		{gone(2, "a"), 1, 2},
		{gone(2, "a"), 1, 2},
		{gone(3, "b"), 1, 12},
		{gone(2, "b"), 0, 13},
	} {
		apply(t, s, x.c)
		wantCount(t, s, 2, x.count)
		wantRoom(t, s, x.room)
		if t.Failed() {
			t.Fatalf("at %d", i)
		}
		s = open(t, d)
		wantRoom(t, s, x.room)
	}
}

// P8.7: the same keys in all spaces, changed in one of them alone.
func TestSpacesAreApart(t *testing.T) {
	d, s := fresh(t, 300)
	var want state
	for space := range api.MaxRoots {
		for i := range 20 {
			c := put(space, fmt.Sprint(i), text(space*9+i))
			apply(t, s, c)
			want = want.with(c)
		}
	}
	wantState(t, d, s, want)
	for space := range api.MaxRoots {
		batch := []api.Change{put(space, "3", "new"), gone(space, "7"), put(space, "21", text(60))}
		apply(t, s, batch...)
		want = want.with(batch...)
		wantState(t, d, s, want)
	}
	for space := range api.MaxRoots {
		wantErr(t, "Clear", s.Clear(space), api.OK)
		want[space] = nil
		wantState(t, d, s, want)
	}
}

// R1: of pages that no store wrote nothing is promised, but that the calls end.
func TestCallsOnOtherPages(t *testing.T) {
	for _, b := range []byte{0, 1, 2, 255} {
		d := device(t, 80)
		wantErr(t, "Format", pager.Format(d), api.OK)
		p, e := pager.Open(d)
		wantErr(t, "Open", e, api.OK)
		page, e := p.Allot()
		wantErr(t, "Allot", e, api.OK)
		wantErr(t, "Put", p.Put(page, slices.Repeat([]byte{b}, api.PageSize)), api.OK)
		wantErr(t, "SetRoot", p.SetRoot(3, page), api.OK)
		wantErr(t, "Commit", p.Commit(), api.OK)
		s := open(t, d)
		s.Get(3, "a")
		s.Next(3, "")
		for range s.From(3, "") {
			break
		}
		s.Apply(put(2, "a", "x"), put(3, "a", "x"))
		s.Apply(put(2, "a", "x"), gone(3, "a"))
		s.Clear(3)
		s.Count(3)
		s.Room()
	}
}
