package disk_test

import (
	"bytes"
	"math"
	"slices"
	"strconv"
	"strings"
	"testing"

	"scrivener/api"
	"scrivener/disk"
)

// made tells a new disk.
func made(t *testing.T, capacity int) *disk.Disk {
	t.Helper()
	d, e := disk.New(capacity)
	if e != api.OK || d == nil {
		t.Fatalf("New(%d): %v, %d", capacity, d, e)
	}
	return d
}

// is looks whether a call answered that.
func is(t *testing.T, what string, got, want api.Errno) {
	t.Helper()
	if got != want {
		t.Errorf("%s: %d, not %d", what, got, want)
	}
}

// reads looks whether a file is there, and has just that text.
func reads(t *testing.T, d *disk.Disk, name, text string) {
	t.Helper()
	if b, e := d.Read(name); e != api.OK || string(b) != text {
		t.Errorf("%q: %q, %d, not %q", name, b, e, text)
	}
}

// has looks whether a disk has just those files, each told by its name and its text.
func has(t *testing.T, d *disk.Disk, files ...string) {
	t.Helper()
	var names []string
	n := 0
	for i := 0; i < len(files); i += 2 {
		names = append(names, files[i])
		n += len(files[i+1])
		reads(t, d, files[i], files[i+1])
	}
	if !slices.Equal(d.Names(), names) || d.Bytes() != n {
		t.Errorf("%q, %d bytes, not %q, %d", d.Names(), d.Bytes(), names, n)
	}
}

// crashed tells a copy of a disk that crashed, and began anew.
func crashed(t *testing.T, d *disk.Disk, keep, torn int) *disk.Disk {
	t.Helper()
	c := d.Copy()
	is(t, "Crash", c.Crash(keep, torn), api.OK)
	is(t, "Start", c.Start(), api.OK)
	return c
}

// The chapter's examples.
func TestExamples(t *testing.T) {
	d := made(t, 10)
	is(t, "Append", d.Append("a", []byte("xy")), api.OK)
	is(t, "Append", d.Append("a", []byte("z")), api.OK)
	has(t, d, "a", "xyz")
	if d.Waits() != 2 {
		t.Errorf("%d wait", d.Waits())
	}
	reads(t, crashed(t, d, 1, 0), "a", "xy")
	d = crashed(t, d, 0, 1)
	reads(t, d, "a", "x")
	is(t, "Put", d.Put("b", []byte("12345678")), api.OK)
	is(t, "Append", d.Append("a", []byte("xyz")), api.ErrFull)

	d = made(t, 10)
	d.Append("a", []byte("x"))
	is(t, "Sync", d.Sync(), api.OK)
	is(t, "Rename", d.Rename("a", "b"), api.OK)
	is(t, "Crash", d.Crash(0, 0), api.OK)
	is(t, "Start", d.Start(), api.OK)
	has(t, d, "a", "x")
	d.Wipe()
	if _, e := d.Read("a"); e != api.ErrNone || d.Serial() != 2 {
		t.Errorf("wiped: %d, serial %d", e, d.Serial())
	}
}

// P4.1: which capacities may be, and what a disk is at first.
func TestNew(t *testing.T) {
	for _, n := range []int{-1, -2, math.MinInt, math.MinInt32, 65537, 65538, 1 << 20, math.MaxInt32, math.MaxInt} {
		if d, e := disk.New(n); e != api.ErrArg || d != nil {
			t.Errorf("%d: %v, %d", n, d, e)
		}
	}
	for _, n := range []int{0, 1, 2, 10, 65535, 65536} {
		d := made(t, n)
		if d.Down() || d.Serial() != 1 || d.Capacity() != n || d.Waits() != 0 {
			t.Errorf("%d: down %v, serial %d, capacity %d, %d wait", n, d.Down(), d.Serial(), d.Capacity(), d.Waits())
		}
		has(t, d)
		is(t, "Start", d.Start(), api.ErrState)
		whole(t, d, newModel(n))
	}
	a, b := made(t, 5), made(t, 5)
	a.Append("a", []byte("x"))
	has(t, b)
}

// notNames are texts that are no names.
func notNames() []string {
	l := []string{"", "0123456789abcdefg", strings.Repeat("a", 17), strings.Repeat("a", 32), strings.Repeat("a", 256), strings.Repeat("a", 257), strings.Repeat(".", 1<<20),
		"é", "ａ", "aé", "\xc3", "a\x00", "a b", " a", "a ", "a/b", "a-b", "a_b", "Aa", "aA", "a\n", "a\xff", "\u0660", "\ufffd"}
	for c := range 256 {
		if s := string([]byte{byte(c)}); !named(s) {
			l = append(l, s, "a"+s, s+"a", "a"+s+"a", strings.Repeat("a", 15)+s)
		}
	}
	return l
}

// P4.2, P4.3: what is no name is refused by each call, ahead of what else might be said, and changes nothing.
func TestNotNames(t *testing.T) {
	d := made(t, 4)
	m := newModel(4)
	a := act{kind: "append", name: "a", text: "xy"}
	is(t, "Append", a.does(d), m.ask(a))
	for _, s := range notNames() {
		for _, b := range [][]byte{nil, []byte("x"), make([]byte, 5)} {
			is(t, "Append "+s, d.Append(s, b), api.ErrArg)
			is(t, "Put "+s, d.Put(s, b), api.ErrArg)
		}
		for _, x := range []string{"a", "none", s} {
			is(t, "Rename from "+s, d.Rename(s, x), api.ErrArg)
			is(t, "Rename to "+s, d.Rename(x, s), api.ErrArg)
		}
		is(t, "Remove "+s, d.Remove(s), api.ErrArg)
		b, e := d.Read(s)
		is(t, "Read "+s, e, api.ErrArg)
		if len(b) != 0 || d.Size(s) != 0 {
			t.Errorf("%q: %q, %d", s, b, d.Size(s))
		}
	}
	whole(t, d, m)
}

// P4.2, P4.3: each of the letters that may be makes a name, at each length that may be.
func TestNamesThatMayBe(t *testing.T) {
	letters := "abcdefghijklmnopqrstuvwxyz0123456789."
	var l []string
	for i := range letters {
		l = append(l, letters[i:i+1], strings.Repeat(letters[i:i+1], 16), "q"+letters[i:i+1]+"w")
	}
	for n := 1; n <= 16; n++ {
		l = append(l, letters[20:20+n], letters[:n])
	}
	for _, s := range l {
		d := made(t, 9)
		is(t, "Append "+s, d.Append(s, []byte("x")), api.OK)
		is(t, "Put "+s, d.Put(s, []byte("yz")), api.OK)
		is(t, "Append "+s, d.Append(s, []byte("x")), api.OK)
		has(t, d, s, "yzx")
		is(t, "Rename "+s, d.Rename(s, "zz"), api.OK)
		has(t, d, "zz", "yzx")
		is(t, "Rename to "+s, d.Rename("zz", s), api.OK)
		if d.Size(s) != 3 {
			t.Errorf("%q: %d bytes", s, d.Size(s))
		}
		is(t, "Remove "+s, d.Remove(s), api.OK)
		has(t, d)
	}
}

// P4.2: an Append puts bytes behind a file's, or makes the file, if without any bytes.
func TestAppend(t *testing.T) {
	d := made(t, 10)
	is(t, "none", d.Append("a", nil), api.OK)
	has(t, d, "a", "")
	is(t, "none", d.Append("b", []byte{}), api.OK)
	has(t, d, "a", "", "b", "")
	is(t, "some", d.Append("a", []byte("xy")), api.OK)
	is(t, "none", d.Append("a", nil), api.OK)
	is(t, "some", d.Append("b", []byte("z")), api.OK)
	has(t, d, "a", "xy", "b", "z")
	if d.Waits() != 5 {
		t.Errorf("%d wait, though Appends without bytes wait too", d.Waits())
	}
	is(t, "noughts", d.Append("a", []byte{0, 255}), api.OK)
	has(t, d, "a", "xy\x00\xff", "b", "z")
}

// P4.2: a Put has the file be just these bytes.
func TestPut(t *testing.T) {
	d := made(t, 10)
	is(t, "new", d.Put("a", []byte("abc")), api.OK)
	is(t, "in its place", d.Put("a", []byte("xy")), api.OK)
	has(t, d, "a", "xy")
	is(t, "none", d.Put("a", nil), api.OK)
	is(t, "none, new", d.Put("b", nil), api.OK)
	has(t, d, "a", "", "b", "")
	is(t, "the same", d.Put("b", nil), api.OK)
	if d.Waits() != 5 {
		t.Errorf("%d wait", d.Waits())
	}
}

// P4.2: what is beyond the capacity is refused, by the files as they are seen; just the capacity is not.
func TestFull(t *testing.T) {
	d := made(t, 5)
	is(t, "six", d.Append("a", make([]byte, 6)), api.ErrFull)
	is(t, "six", d.Put("a", make([]byte, 6)), api.ErrFull)
	is(t, "many", d.Append("a", make([]byte, 1<<20)), api.ErrFull)
	is(t, "many", d.Put("a", make([]byte, 1<<20)), api.ErrFull)
	has(t, d)
	is(t, "five", d.Append("a", []byte("12345")), api.OK)
	is(t, "one more", d.Append("a", []byte("6")), api.ErrFull)
	is(t, "one more, of another file", d.Append("b", []byte("6")), api.ErrFull)
	is(t, "one more, put", d.Put("b", []byte("6")), api.ErrFull)
	is(t, "none more", d.Append("a", nil), api.OK)
	is(t, "none more, of another file", d.Append("b", nil), api.OK)
	is(t, "none more, put", d.Put("c", nil), api.OK)
	is(t, "five in the place of five", d.Put("a", []byte("abcde")), api.OK)
	is(t, "six in the place of five", d.Put("a", []byte("abcdef")), api.ErrFull)
	is(t, "five in the place of none", d.Put("b", []byte("abcde")), api.ErrFull)
	has(t, d, "a", "abcde", "b", "", "c", "")
	is(t, "fewer", d.Put("a", []byte("ab")), api.OK)
	is(t, "three", d.Append("b", []byte("xyz")), api.OK)
	is(t, "one more", d.Append("a", []byte("c")), api.ErrFull)
	is(t, "in the place of three", d.Rename("a", "b"), api.OK)
	has(t, d, "b", "ab", "c", "")
	is(t, "four", d.Append("c", []byte("1234")), api.ErrFull)
	is(t, "three", d.Append("c", []byte("123")), api.OK)
	is(t, "Remove", d.Remove("b"), api.OK)
	is(t, "two", d.Append("c", []byte("45")), api.OK)
	has(t, d, "c", "12345")
	is(t, "Sync", d.Sync(), api.OK)
	is(t, "one more behind a Sync", d.Append("c", []byte("6")), api.ErrFull)
	is(t, "Remove", d.Remove("c"), api.OK)
	is(t, "though what went still lasts", d.Put("a", []byte("12345")), api.OK)
	has(t, crashed(t, d, 0, 9), "c", "12345")
	has(t, crashed(t, d, 1, 9))
	has(t, crashed(t, d, 2, 9), "a", "12345")
}

// P4.1, P4.2: a disk without any capacity has files without bytes.
func TestNoCapacity(t *testing.T) {
	d := made(t, 0)
	is(t, "one", d.Append("a", []byte("x")), api.ErrFull)
	is(t, "one, put", d.Put("a", []byte("x")), api.ErrFull)
	is(t, "none", d.Append("a", nil), api.OK)
	is(t, "none, put", d.Put("b", nil), api.OK)
	is(t, "Rename", d.Rename("a", "c"), api.OK)
	has(t, d, "b", "", "c", "")
	if d.Waits() != 3 {
		t.Errorf("%d wait", d.Waits())
	}
	has(t, crashed(t, d, 2, 5), "a", "", "b", "")
}

// P4.2: a Rename gives another name, in the place of a file of that name; to its own one nothing waits.
func TestRename(t *testing.T) {
	d := made(t, 10)
	is(t, "none there", d.Rename("a", "b"), api.ErrNone)
	is(t, "none there, alike", d.Rename("a", "a"), api.ErrNone)
	d.Put("a", []byte("abc"))
	d.Put("b", []byte("xy"))
	is(t, "alike", d.Rename("a", "a"), api.OK)
	has(t, d, "a", "abc", "b", "xy")
	if d.Waits() != 2 {
		t.Errorf("%d wait, alike", d.Waits())
	}
	is(t, "in the place of b", d.Rename("a", "b"), api.OK)
	has(t, d, "b", "abc")
	is(t, "a is no more", d.Rename("a", "c"), api.ErrNone)
	is(t, "new", d.Rename("b", "c"), api.OK)
	has(t, d, "c", "abc")
	if d.Waits() != 4 {
		t.Errorf("%d wait", d.Waits())
	}
	d.Append("b", []byte("q"))
	d.Append("c", []byte("d"))
	has(t, d, "b", "q", "c", "abcd")
	has(t, crashed(t, d, 3, 9), "b", "abc")
	has(t, crashed(t, d, 4, 9), "b", "q", "c", "abc")
	d = made(t, 10)
	d.Append("a", nil)
	is(t, "without bytes", d.Rename("a", "b"), api.OK)
	has(t, d, "b", "")
}

// P4.2: a Remove takes a file away, once.
func TestRemove(t *testing.T) {
	d := made(t, 10)
	is(t, "none there", d.Remove("a"), api.ErrNone)
	d.Put("a", []byte("abc"))
	d.Put("b", nil)
	is(t, "a", d.Remove("a"), api.OK)
	has(t, d, "b", "")
	is(t, "a again", d.Remove("a"), api.ErrNone)
	is(t, "b, without bytes", d.Remove("b"), api.OK)
	has(t, d)
	if d.Waits() != 4 {
		t.Errorf("%d wait", d.Waits())
	}
	d.Append("a", []byte("z"))
	has(t, d, "a", "z")
	is(t, "Sync", d.Sync(), api.OK)
	d.Remove("a")
	has(t, crashed(t, d, 0, 0), "a", "z")
	has(t, crashed(t, d, 1, 0))
}

// P4.2: behind a Sync nothing waits, and all lasts behind any crash.
func TestSync(t *testing.T) {
	d := made(t, 20)
	is(t, "of nothing", d.Sync(), api.OK)
	d.Append("a", []byte("abc"))
	d.Put("b", []byte("xy"))
	d.Put("c", nil)
	d.Rename("b", "d")
	d.Remove("c")
	d.Append("a", []byte("de"))
	is(t, "of six", d.Sync(), api.OK)
	if d.Waits() != 0 {
		t.Errorf("%d wait", d.Waits())
	}
	has(t, d, "a", "abcde", "d", "xy")
	for _, keep := range []int{math.MinInt, -1, 0, 1, 6, math.MaxInt} {
		c := crashed(t, d, keep, keep)
		has(t, c, "a", "abcde", "d", "xy")
		is(t, "again", c.Sync(), api.OK)
		has(t, crashed(t, c, keep, keep), "a", "abcde", "d", "xy")
	}
	d.Append("a", []byte("f"))
	d.Append("d", []byte("z"))
	has(t, crashed(t, d, 0, 0), "a", "abcde", "d", "xy")
	has(t, crashed(t, d, 1, 0), "a", "abcdef", "d", "xy")
	is(t, "again", d.Sync(), api.OK)
	has(t, crashed(t, d, 0, 0), "a", "abcdef", "d", "xyz")
}

// P4.3: names are told rising, byte by byte, in whatever order their files came.
func TestNamesRise(t *testing.T) {
	want := []string{".", "..", ".a", "0", "00", "9", "a", "a.", "a.1", "a0", "aa", "ab", "b", "z", "zzzzzzzzzzzzzzzz"}
	for turn := range want {
		d := made(t, 100)
		for i := range want {
			// 7 and 15 have no divisor in common: all come, in another order.
			is(t, "Put", d.Put(want[(turn+7*i)%len(want)], nil), api.OK)
		}
		for range 20 {
			if l := d.Names(); !slices.Equal(l, want) {
				t.Fatalf("%q", l)
			}
		}
	}
}

// P4.3: what is told is of the files as they are seen, synced or not.
func TestSeen(t *testing.T) {
	d := made(t, 20)
	d.Put("a", []byte("abc"))
	d.Put("b", []byte("xy"))
	d.Sync()
	d.Append("a", []byte("d"))
	d.Rename("b", "c")
	d.Put("e", []byte("q"))
	has(t, d, "a", "abcd", "c", "xy", "e", "q")
	if d.Size("a") != 4 || d.Size("b") != 0 || d.Size("c") != 2 || d.Size("none") != 0 {
		t.Errorf("sizes: %d, %d, %d, %d", d.Size("a"), d.Size("b"), d.Size("c"), d.Size("none"))
	}
	if b, e := d.Read("b"); e != api.ErrNone || len(b) != 0 {
		t.Errorf("b: %q, %d", b, e)
	}
	if d.Waits() != 3 {
		t.Errorf("%d wait", d.Waits())
	}
}

// P4.4: each kind of change, met by a crash ahead of it, within it, behind it.
func TestCrash(t *testing.T) {
	d := made(t, 40)
	m := newModel(40)
	for _, a := range []act{
		{kind: "append", name: "a", text: "abc"},
		{kind: "put", name: "b", text: "vwxyz"},
		{kind: "append", name: "b", text: "12"},
		{kind: "rename", name: "b", to: "a"},
		{kind: "append", name: "b", text: "qr"},
		{kind: "append", name: "c", text: ""},
		{kind: "append", name: "b", text: ""},
		{kind: "remove", name: "a"},
		{kind: "put", name: "a", text: ""},
		{kind: "rename", name: "b", to: "d"},
		{kind: "append", name: "d", text: "s"},
	} {
		is(t, a.kind, a.does(d), m.ask(a))
		whole(t, d, m)
	}
	for _, c := range []struct {
		keep, torn int
		files      []string
	}{
		{0, 0, nil}, {-1, -1, nil}, {math.MinInt, math.MinInt, nil}, {0, -5, nil},
		{0, 1, []string{"a", "a"}}, {-7, 2, []string{"a", "ab"}}, {math.MinInt, 3, []string{"a", "abc"}}, {0, math.MaxInt, []string{"a", "abc"}},
		{1, 0, []string{"a", "abc"}}, {1, 3, []string{"a", "abc"}}, {1, math.MaxInt, []string{"a", "abc"}},
		{2, 0, []string{"a", "abc", "b", "vwxyz"}}, {2, 1, []string{"a", "abc", "b", "vwxyz1"}},
		{3, 9, []string{"a", "abc", "b", "vwxyz12"}},
		{4, 0, []string{"a", "vwxyz12"}}, {4, 1, []string{"a", "vwxyz12", "b", "q"}}, {4, 2, []string{"a", "vwxyz12", "b", "qr"}},
		{5, 0, []string{"a", "vwxyz12", "b", "qr"}}, {5, 9, []string{"a", "vwxyz12", "b", "qr"}},
		{6, 9, []string{"a", "vwxyz12", "b", "qr", "c", ""}},
		{7, 9, []string{"a", "vwxyz12", "b", "qr", "c", ""}},
		{8, 9, []string{"b", "qr", "c", ""}},
		{9, 9, []string{"a", "", "b", "qr", "c", ""}},
		{10, 0, []string{"a", "", "c", "", "d", "qr"}},
		{11, 0, []string{"a", "", "c", "", "d", "qrs"}}, {12, -1, []string{"a", "", "c", "", "d", "qrs"}}, {math.MaxInt, math.MaxInt, []string{"a", "", "c", "", "d", "qrs"}},
	} {
		has(t, crashed(t, d, c.keep, c.torn), c.files...)
	}
}

// P4.4: a crash has nothing wait, so that the next one finds what the first one left.
func TestCrashAgain(t *testing.T) {
	d := made(t, 20)
	d.Append("a", []byte("abc"))
	d.Append("b", []byte("xyz"))
	d = crashed(t, d, 0, 2)
	if d.Waits() != 0 {
		t.Errorf("%d wait", d.Waits())
	}
	has(t, d, "a", "ab")
	has(t, crashed(t, d, 9, 9), "a", "ab")
	d.Append("a", []byte("C"))
	d.Append("b", []byte("X"))
	has(t, d, "a", "abC", "b", "X")
	has(t, crashed(t, d, 0, 0), "a", "ab")
	d = crashed(t, d, 1, 0)
	has(t, d, "a", "abC")
	is(t, "Sync", d.Sync(), api.OK)
	has(t, d, "a", "abC")
	is(t, "as much as there is", d.Append("q", make([]byte, 17)), api.OK)
	is(t, "one more", d.Append("q", make([]byte, 1)), api.ErrFull)
}

// P4.2 to P4.5: of a disk that is down nothing is told or done but what the chapter names.
func TestDown(t *testing.T) {
	d := made(t, 9)
	d.Append("a", []byte("abc"))
	d.Sync()
	d.Append("a", []byte("d"))
	is(t, "Crash", d.Crash(0, 0), api.OK)
	downOnly(t, d, api.OK)
	if d.Serial() != 1 || d.Capacity() != 9 {
		t.Errorf("serial %d, capacity %d", d.Serial(), d.Capacity())
	}
	c := d.Copy()
	downOnly(t, c, api.OK)
	is(t, "Start", d.Start(), api.OK)
	if d.Down() {
		t.Error("down behind Start")
	}
	has(t, d, "a", "abc")
	is(t, "Start", d.Start(), api.ErrState)
	has(t, d, "a", "abc")
	downOnly(t, c, api.OK)
	is(t, "Start", c.Start(), api.OK)
	has(t, c, "a", "abc")
}

// downOnly looks whether a disk that is down says so to each call, at arguments that are wrong, too; Start, of a copy, answers what is told.
func downOnly(t *testing.T, d *disk.Disk, start api.Errno) {
	t.Helper()
	for _, s := range []string{"a", "b", "none", "", "A", "0123456789abcdefg"} {
		is(t, "Append", d.Append(s, []byte("x")), api.ErrDown)
		is(t, "Append", d.Append(s, make([]byte, 1<<17)), api.ErrDown)
		is(t, "Put", d.Put(s, []byte("x")), api.ErrDown)
		is(t, "Put", d.Put(s, make([]byte, 1<<17)), api.ErrDown)
		is(t, "Rename", d.Rename(s, "b"), api.ErrDown)
		is(t, "Rename", d.Rename("a", s), api.ErrDown)
		is(t, "Rename", d.Rename(s, s), api.ErrDown)
		is(t, "Remove", d.Remove(s), api.ErrDown)
		b, e := d.Read(s)
		is(t, "Read", e, api.ErrDown)
		if len(b) != 0 || d.Size(s) != 0 {
			t.Errorf("%q: %q, size %d", s, b, d.Size(s))
		}
	}
	is(t, "Sync", d.Sync(), api.ErrDown)
	is(t, "Crash", d.Crash(0, 0), api.ErrDown)
	is(t, "Crash", d.Crash(-1, math.MaxInt), api.ErrDown)
	if !d.Down() || len(d.Names()) != 0 || d.Bytes() != 0 || d.Waits() != 0 {
		t.Errorf("down %v, %q, %d bytes, %d wait", d.Down(), d.Names(), d.Bytes(), d.Waits())
	}
	if start == api.OK {
		is(t, "Start", d.Copy().Start(), start)
	} else {
		is(t, "Start", d.Start(), start)
	}
}

// P4.5: a nil disk, and one that New did not make, is down for ever, and is nothing.
func TestNotMade(t *testing.T) {
	var zero disk.Disk
	full := made(t, 30)
	full.Append("a", []byte("abc"))
	full.Sync()
	full.Append("a", []byte("d"))
	byValue, emptied := *full, made(t, 30)
	*emptied = zero
	for i, d := range []*disk.Disk{nil, &zero, new(disk.Disk), &byValue, emptied} {
		for range 2 {
			downOnly(t, d, api.ErrArg)
			if d.Serial() != 0 || d.Capacity() != 0 {
				t.Errorf("disk %d: serial %d, capacity %d", i, d.Serial(), d.Capacity())
			}
			if c := d.Copy(); c != nil {
				t.Errorf("disk %d: a copy", i)
			}
			d.Wipe()
		}
	}
	has(t, full, "a", "abcd")
	has(t, crashed(t, full, 0, 0), "a", "abc")
}

// P4.4: a wiped disk is another one, up or down as it was, without files, and without what waited.
func TestWipe(t *testing.T) {
	d := made(t, 10)
	d.Append("a", []byte("abc"))
	d.Sync()
	d.Append("b", []byte("xy"))
	d.Wipe()
	if d.Down() || d.Serial() != 2 || d.Capacity() != 10 || d.Waits() != 0 {
		t.Errorf("down %v, serial %d, capacity %d, %d wait", d.Down(), d.Serial(), d.Capacity(), d.Waits())
	}
	has(t, d)
	has(t, crashed(t, d, 9, 9))
	is(t, "all of it", d.Append("c", make([]byte, 10)), api.OK)
	is(t, "one more", d.Append("c", make([]byte, 1)), api.ErrFull)
	d.Sync()
	is(t, "Crash", d.Crash(0, 0), api.OK)
	for i := range 3 {
		d.Wipe()
		if !d.Down() || d.Serial() != uint64(3+i) || d.Capacity() != 10 {
			t.Errorf("down %v, serial %d, capacity %d", d.Down(), d.Serial(), d.Capacity())
		}
	}
	is(t, "Start", d.Start(), api.OK)
	has(t, d)
	is(t, "Crash", d.Crash(0, 0), api.OK)
	is(t, "Start", d.Start(), api.OK)
	if d.Serial() != 5 {
		t.Errorf("serial %d behind a crash", d.Serial())
	}
}

// P4.5: a wiped disk's copy stays, and the other way round.
func TestWipeOfCopy(t *testing.T) {
	d := made(t, 10)
	d.Append("a", []byte("abc"))
	c, e := d.Copy(), d.Copy()
	c.Wipe()
	has(t, d, "a", "abc")
	if d.Serial() != 1 || c.Serial() != 2 || d.Waits() != 1 {
		t.Errorf("serials %d, %d; %d wait", d.Serial(), c.Serial(), d.Waits())
	}
	d.Wipe()
	has(t, e, "a", "abc")
	has(t, crashed(t, e, 1, 0), "a", "abc")
}

// P4.5: what is handed in is neither kept nor changed, nor the room behind it.
func TestHandedInApart(t *testing.T) {
	room := []byte("0123456789")
	d := made(t, 40)
	d.Append("a", room[:3])
	d.Put("b", room[3:5])
	d.Append("b", room[5:6])
	d.Append("a", room[6:7])
	if string(room) != "0123456789" {
		t.Errorf("changed: %q", room)
	}
	clear(room)
	has(t, d, "a", "0126", "b", "345")
	has(t, crashed(t, d, 0, 2), "a", "01")
	has(t, crashed(t, d, 2, 0), "a", "012", "b", "34")
	has(t, crashed(t, d, 3, 1), "a", "0126", "b", "345")
	d.Sync()
	has(t, d, "a", "0126", "b", "345")
	has(t, crashed(t, d, 0, 0), "a", "0126", "b", "345")
}

// P4.5: what is answered is new memory.
func TestAnswersApart(t *testing.T) {
	d := made(t, 40)
	d.Put("a", []byte("abc"))
	d.Put("b", []byte("xy"))
	d.Sync()
	d.Append("a", []byte("d"))
	for range 2 {
		b, _ := d.Read("a")
		b = append(b, "and more"...)
		clear(b)
		b, _ = d.Read("b")
		clear(b[:cap(b)])
		l := d.Names()
		clear(l)
		has(t, d, "a", "abcd", "b", "xy")
		has(t, crashed(t, d, 0, 0), "a", "abc", "b", "xy")
		has(t, crashed(t, d, 1, 0), "a", "abcd", "b", "xy")
	}
	b, _ := d.Read("a")
	d.Append("a", []byte("e"))
	d.Put("b", []byte("12"))
	if string(b) != "abcd" {
		t.Errorf("changed with the file: %q", b)
	}
}

// P4.5, P4.8: disks that are copies of one another grow files apart, whatever waits, whatever lasts.
func TestCopiesGrowApart(t *testing.T) {
	d := made(t, 100)
	d.Put("a", []byte("abc"))
	d.Sync()
	d.Append("a", []byte("de"))
	d.Put("b", []byte("xyz"))
	d.Append("b", []byte("1"))
	c := d.Copy()
	d.Append("a", []byte("f"))
	c.Append("a", []byte("F"))
	c.Append("b", []byte("3"))
	d.Append("b", []byte("2"))
	d.Put("c", []byte("d"))
	c.Put("c", []byte("c"))
	for range 2 {
		has(t, d, "a", "abcdef", "b", "xyz12", "c", "d")
		has(t, c, "a", "abcdeF", "b", "xyz13", "c", "c")
		has(t, crashed(t, d, 9, 0), "a", "abcdef", "b", "xyz12", "c", "d")
		has(t, crashed(t, c, 9, 0), "a", "abcdeF", "b", "xyz13", "c", "c")
		d.Sync()
	}
	has(t, crashed(t, c, 3, 0), "a", "abcde", "b", "xyz1")
	c.Sync()
	has(t, crashed(t, c, 0, 0), "a", "abcdeF", "b", "xyz13", "c", "c")
	has(t, crashed(t, d, 0, 0), "a", "abcdef", "b", "xyz12", "c", "d")
}

// P4.5, P4.8: what lasts does not change with what is seen, where a file was put and grows.
func TestLastsApart(t *testing.T) {
	d := made(t, 100)
	d.Put("a", make([]byte, 20))
	d.Append("a", []byte("one"))
	is(t, "Sync", d.Sync(), api.OK)
	d.Append("a", []byte("two"))
	d.Append("a", []byte("three"))
	has(t, crashed(t, d, 0, 0), "a", string(make([]byte, 20))+"one")
	d = crashed(t, d, 0, 1)
	d.Append("a", []byte("four"))
	has(t, crashed(t, d, 0, 0), "a", string(make([]byte, 20))+"onet")
	d.Append("a", []byte("five"))
	has(t, crashed(t, d, 1, 2), "a", string(make([]byte, 20))+"onetfourfi")
	is(t, "Sync", d.Sync(), api.OK)
	has(t, d, "a", string(make([]byte, 20))+"onetfourfive")
}

// P4.1, P4.2: the greatest disk is filled byte by byte, and file by file, without any waste of time.
func TestGreatest(t *testing.T) {
	d := made(t, api.MaxDisk)
	for i := range api.MaxDisk {
		if e := d.Append("a", []byte{byte(i)}); e != api.OK {
			t.Fatalf("byte %d: %d", i, e)
		}
	}
	is(t, "one more", d.Append("a", []byte{1}), api.ErrFull)
	if d.Size("a") != 65536 || d.Bytes() != 65536 || d.Waits() != 65536 {
		t.Errorf("%d, %d bytes, %d wait", d.Size("a"), d.Bytes(), d.Waits())
	}
	if c := crashed(t, d, 65535, 0); c.Size("a") != 65535 {
		t.Errorf("behind a crash: %d", c.Size("a"))
	}
	d.Sync()
	d.Put("a", nil)
	for i := range api.MaxDisk {
		if e := d.Put("f"+strconv.Itoa(i), []byte{byte(i)}); e != api.OK {
			t.Fatalf("file %d: %d", i, e)
		}
	}
	is(t, "one more", d.Put("b", []byte{1}), api.ErrFull)
	d.Sync()
	l := d.Names()
	if len(l) != 65537 || !slices.IsSorted(l) || d.Bytes() != 65536 {
		t.Errorf("%d files, %d bytes", len(l), d.Bytes())
	}
	d = made(t, api.MaxDisk)
	is(t, "too much", d.Put("a", make([]byte, api.MaxDisk+1)), api.ErrFull)
	is(t, "at once", d.Put("a", bytes.Repeat([]byte{7}, api.MaxDisk)), api.OK)
	is(t, "in its place", d.Put("a", bytes.Repeat([]byte{8}, api.MaxDisk)), api.OK)
	reads(t, d, "a", strings.Repeat("\x08", api.MaxDisk))
	reads(t, crashed(t, d, 1, 9), "a", strings.Repeat("\x07", api.MaxDisk))
}
