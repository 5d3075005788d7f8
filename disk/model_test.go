package disk_test

import (
	"maps"
	"math/rand/v2"
	"slices"
	"testing"

	"scrivener/api"
	"scrivener/disk"
)

// act is a change, as it was asked for.
type act struct {
	kind     string
	name, to string
	text     string
}

// done tells files, of which a change was done, as the chapter's words say it.
func (a act) done(files map[string]string) map[string]string {
	x := maps.Clone(files)
	switch a.kind {
	case "append":
		x[a.name] = files[a.name] + a.text
	case "put":
		x[a.name] = a.text
	case "rename":
		delete(x, a.name)
		x[a.to] = files[a.name]
	case "remove":
		delete(x, a.name)
	}
	return x
}

// model is a disk as the chapter's words say it: what is seen is reckoned anew each time.
type model struct {
	capacity int
	serial   uint64
	down     bool
	lasts    map[string]string
	waits    []act
}

// newModel tells what New should make.
func newModel(capacity int) *model {
	return &model{capacity: capacity, serial: 1, lasts: map[string]string{}}
}

// seen tells the files that last, with all that waits done.
func (m *model) seen() map[string]string {
	files := m.lasts
	for _, a := range m.waits {
		files = a.done(files)
	}
	return files
}

// bytesOf tells how many bytes all files have.
func bytesOf(files map[string]string) int {
	n := 0
	for _, s := range files {
		n += len(s)
	}
	return n
}

// named tells whether it is a name.
func named(s string) bool {
	for i := range len(s) {
		if !slices.Contains([]byte("abcdefghijklmnopqrstuvwxyz0123456789."), s[i]) {
			return false
		}
	}
	return len(s) >= 1 && len(s) <= 16
}

// ask tells what a change should be answered, and makes it wait.
func (m *model) ask(a act) api.Errno {
	if m.down {
		return api.ErrDown
	}
	if !named(a.name) || a.kind == "rename" && !named(a.to) {
		return api.ErrArg
	}
	files := m.seen()
	if _, ok := files[a.name]; !ok && (a.kind == "rename" || a.kind == "remove") {
		return api.ErrNone
	}
	if bytesOf(a.done(files)) > m.capacity {
		return api.ErrFull
	}
	if a.kind != "rename" || a.name != a.to {
		m.waits = append(m.waits, a)
	}
	return api.OK
}

// sync tells what Sync should be answered.
func (m *model) sync() api.Errno {
	if m.down {
		return api.ErrDown
	}
	m.lasts, m.waits = m.seen(), nil
	return api.OK
}

// crash tells what Crash should be answered.
func (m *model) crash(keep, torn int) api.Errno {
	if m.down {
		return api.ErrDown
	}
	for i, a := range m.waits {
		if i < keep {
			m.lasts = a.done(m.lasts)
			continue
		}
		if a.kind == "append" && torn > 0 && a.text != "" {
			if torn < len(a.text) {
				a.text = a.text[:torn]
			}
			m.lasts = a.done(m.lasts)
		}
		break
	}
	m.waits, m.down = nil, true
	return api.OK
}

// start tells what Start should be answered.
func (m *model) start() api.Errno {
	if !m.down {
		return api.ErrState
	}
	m.down = false
	return api.OK
}

// wipe does what Wipe should.
func (m *model) wipe() {
	m.lasts, m.waits = map[string]string{}, nil
	m.serial++
}

// copied tells what Copy should.
func (m *model) copied() *model {
	c := *m
	c.waits = slices.Clone(m.waits)
	return &c
}

// does has a disk make a change.
func (a act) does(d *disk.Disk) api.Errno {
	switch a.kind {
	case "append":
		return d.Append(a.name, []byte(a.text))
	case "put":
		return d.Put(a.name, []byte(a.text))
	case "rename":
		return d.Rename(a.name, a.to)
	}
	return d.Remove(a.name)
}

// alike looks whether a disk tells just what its model says.
func alike(t *testing.T, d *disk.Disk, m *model) {
	t.Helper()
	if d.Down() != m.down || d.Serial() != m.serial || d.Capacity() != m.capacity {
		t.Fatalf("down %v, serial %d, capacity %d, not %v, %d, %d", d.Down(), d.Serial(), d.Capacity(), m.down, m.serial, m.capacity)
	}
	files, waits, e, none := m.seen(), len(m.waits), api.OK, api.ErrNone
	if m.down {
		files, waits, e, none = nil, 0, api.ErrDown, api.ErrDown
	}
	if names := slices.Sorted(maps.Keys(files)); !slices.Equal(d.Names(), names) {
		t.Fatalf("names: %q, not %q", d.Names(), names)
	}
	if d.Bytes() != bytesOf(files) || d.Waits() != waits {
		t.Fatalf("%d bytes, %d wait, not %d, %d", d.Bytes(), d.Waits(), bytesOf(files), waits)
	}
	for name, s := range files {
		if b, err := d.Read(name); err != e || string(b) != s || d.Size(name) != len(s) {
			t.Fatalf("%q: %q, %d, size %d, not %q", name, b, err, d.Size(name), s)
		}
	}
	for _, name := range []string{"a", "b", "c.9", "none"} {
		if _, ok := files[name]; ok {
			continue
		}
		if b, err := d.Read(name); err != none || len(b) != 0 || d.Size(name) != 0 {
			t.Fatalf("%q: %q, %d, size %d, though there is none", name, b, err, d.Size(name))
		}
	}
}

// whole looks at all that a disk tells, and at what each crash that there may be leaves of copies of it.
func whole(t *testing.T, d *disk.Disk, m *model) {
	t.Helper()
	alike(t, d, m)
	longest := 0
	for _, a := range m.waits {
		longest = max(longest, len(a.text))
	}
	for keep := -1; keep <= len(m.waits)+1; keep++ {
		for torn := -1; torn <= longest+1; torn++ {
			c, n := d.Copy(), m.copied()
			if e := c.Crash(keep, torn); e != n.crash(keep, torn) {
				t.Fatalf("Crash(%d, %d): %d", keep, torn, e)
			}
			alike(t, c, n)
			if e := c.Start(); e != n.start() {
				t.Fatalf("Start behind Crash(%d, %d): %d", keep, torn, e)
			}
			alike(t, c, n)
		}
	}
	alike(t, d, m)
}

// chance makes changes by chance, of few names and short texts, so that files meet, and disks are full.
type chance struct{ *rand.Rand }

func newChance(seed uint64) chance { return chance{rand.New(rand.NewPCG(seed, 4))} }

func (c chance) name() string {
	names := []string{"a", "b", "c.9", "a", "b", "c.9", "a", "b", "0123456789abcdef", "", "A", "0123456789abcdefg"}
	return names[c.IntN(len(names))]
}

func (c chance) text(most int) string {
	b := make([]byte, c.IntN(most+1))
	for i := range b {
		b[i] = byte('A' + c.IntN(26))
	}
	return string(b)
}

func (c chance) act() act {
	switch c.IntN(9) {
	case 0, 1, 2, 3:
		return act{kind: "append", name: c.name(), text: c.text(5)}
	case 4, 5:
		return act{kind: "put", name: c.name(), text: c.text(7)}
	case 6, 7:
		return act{kind: "rename", name: c.name(), to: c.name()}
	}
	return act{kind: "remove", name: c.name()}
}

// step does one thing by chance to a disk and its model.
func (c chance) step(t *testing.T, d *disk.Disk, m *model) {
	t.Helper()
	var what string
	var got, want api.Errno
	switch x := c.IntN(40); {
	case x < 2:
		what, got, want = "Sync", d.Sync(), m.sync()
	case x < 4:
		keep, torn := c.IntN(9)-2, c.IntN(9)-2
		what, got, want = "Crash", d.Crash(keep, torn), m.crash(keep, torn)
	case x < 7:
		what, got, want = "Start", d.Start(), m.start()
	case x < 8 && c.IntN(8) == 0:
		what = "Wipe"
		d.Wipe()
		m.wipe()
	default:
		a := c.act()
		what, got, want = a.kind+" "+a.name+" "+a.to+" "+a.text, a.does(d), m.ask(a)
	}
	if got != want {
		t.Fatalf("%s: %d, not %d", what, got, want)
	}
}

// P4.1 to P4.5: whatever is done to a disk by chance, it is as the chapter's words say, and so is what each crash leaves.
func TestByItsWords(t *testing.T) {
	for seed := range uint64(300) {
		c := newChance(seed)
		capacity := c.IntN(30)
		d, _ := disk.New(capacity)
		m := newModel(capacity)
		for i := range 120 {
			c.step(t, d, m)
			alike(t, d, m)
			if i%30 == 29 {
				whole(t, d, m)
			}
			if i%17 == 16 {
				d = d.Copy()
			}
		}
	}
}

// P4.6: behind a crash files are as they were seen at the last Sync, with a beginning of the changes since, the last of them perhaps torn; by what the disk itself told.
func TestSyncedLasts(t *testing.T) {
	for seed := range uint64(400) {
		c := newChance(seed + 1000)
		d, _ := disk.New(10 + c.IntN(40))
		was := []map[string]string{filesOf(d)} // at the last Sync, and behind each change since
		var acts []act
		for range 60 {
			if c.IntN(12) == 0 {
				if e := d.Sync(); e != api.OK {
					t.Fatalf("Sync: %d", e)
				}
				was, acts = []map[string]string{filesOf(d)}, nil
			}
			waits := d.Waits()
			a := c.act()
			a.does(d)
			if d.Waits() > waits {
				was, acts = append(was, filesOf(d)), append(acts, a)
			}
			if c.IntN(15) != 0 {
				continue
			}
			keep, torn := c.IntN(len(acts)+3)-1, c.IntN(8)-1
			if e := d.Crash(keep, torn); e != api.OK {
				t.Fatalf("Crash: %d", e)
			}
			d.Start()
			left := min(max(keep, 0), len(acts))
			want := was[left]
			if left < len(acts) && acts[left].kind == "append" && torn > 0 && acts[left].text != "" {
				a := acts[left]
				want = maps.Clone(want)
				want[a.name] += a.text[:min(torn, len(a.text))]
			}
			if files := filesOf(d); !maps.Equal(files, want) {
				t.Fatalf("seed %d, Crash(%d, %d) of %v: %q, not %q", seed, keep, torn, acts, files, want)
			}
			was, acts = []map[string]string{want}, nil
		}
	}
}

// filesOf tells all that may be read of a disk.
func filesOf(d *disk.Disk) map[string]string {
	files := map[string]string{}
	for _, name := range d.Names() {
		b, _ := d.Read(name)
		files[name] = string(b)
	}
	return files
}

// P4.7: whatever is done, the files never have more bytes than the capacity, as told, and as read; nor behind any crash.
func TestNeverTooMuch(t *testing.T) {
	full := 0
	for seed := range uint64(200) {
		c := newChance(seed + 2000)
		capacity := c.IntN(20)
		d, _ := disk.New(capacity)
		m := newModel(capacity)
		for range 150 {
			c.step(t, d, m)
			if d.Down() {
				c := d.Copy()
				c.Start()
				if n := bytesOf(filesOf(c)); n > capacity || c.Bytes() != n {
					t.Fatalf("seed %d, behind a crash: %d bytes, told %d, of %d", seed, n, c.Bytes(), capacity)
				}
				continue
			}
			n := bytesOf(filesOf(d))
			if n > capacity || d.Bytes() != n {
				t.Fatalf("seed %d: %d bytes, told %d, of %d", seed, n, d.Bytes(), capacity)
			}
			if n == capacity {
				full++
			}
		}
	}
	if full < 1000 {
		t.Errorf("just %d times full: the edge is hardly tried", full)
	}
}

// P4.8: reading, and what is refused, changes nothing, nor what a crash would leave.
func TestReadingChangesNothing(t *testing.T) {
	for seed := range uint64(100) {
		c := newChance(seed + 3000)
		d, _ := disk.New(15)
		m := newModel(15)
		for range 40 {
			c.step(t, d, m)
		}
		for _, name := range []string{"a", "b", "c.9", "none", "", "A"} {
			d.Read(name)
			d.Size(name)
			d.Append(name+"#", nil)
			d.Put(name, make([]byte, 16))
			d.Rename(name+"#", "a")
			d.Rename("a", name+"#")
			d.Rename(name, name)
			d.Remove(name + "none")
		}
		d.Names()
		d.Bytes()
		d.Waits()
		d.Serial()
		d.Capacity()
		d.Down()
		d.Copy()
		whole(t, d, m)
	}
}

// P4.5, P4.8: a copy is the same, and a disk of its own: neither of them changes with what is done to the other one.
func TestCopyApart(t *testing.T) {
	for seed := range uint64(200) {
		c := newChance(seed + 4000)
		d, _ := disk.New(25)
		m := newModel(25)
		for range c.IntN(40) {
			c.step(t, d, m)
		}
		e, n := d.Copy(), m.copied()
		whole(t, e, n)
		for range 40 {
			if c.IntN(2) == 0 {
				c.step(t, d, m)
			} else {
				c.step(t, e, n)
			}
			alike(t, d, m)
			alike(t, e, n)
		}
		whole(t, d, m)
		whole(t, e, n)
	}
}
