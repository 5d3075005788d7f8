package acceptor_test

import (
	"fmt"
	"math"
	"math/rand/v2"
	"slices"
	"strings"
	"testing"

	"scrivener/acceptor"
	"scrivener/api"
	"scrivener/disk"
)

// The examples of the chapter.
func TestExamples(t *testing.T) {
	d := roomy(t, 1000)
	a := opened(t, 2, d)
	first := api.Promise{From: 2, Promised: bal(1, 4, 1), Accepted: bal(1, 4, 1), Value: []byte("x")}
	tells := func(what string, p api.Promise, e api.Errno, want api.Promise, code api.Errno) {
		t.Helper()
		if e != code || !alike(p, want) {
			t.Errorf("%s: %+v, %d, not %+v, %d", what, p, e, want, code)
		}
	}
	p, e := a.Prepare(1, bal(1, 4, 1))
	tells("Prepare", p, e, api.Promise{From: 2, Promised: bal(1, 4, 1)}, api.OK)
	p, e = a.Accept(1, bal(1, 4, 1), []byte("x"))
	tells("Accept", p, e, api.Promise{From: 2, Promised: bal(1, 4, 1), Accepted: bal(1, 4, 1)}, api.OK)
	p, e = a.Prepare(1, bal(1, 3, 9))
	tells("Prepare ahead", p, e, first, api.OK)
	p, e = a.Accept(1, bal(1, 3, 9), []byte("y"))
	tells("Accept ahead", p, e, api.Promise{From: 2, Promised: bal(1, 4, 1), Accepted: bal(1, 4, 1)}, api.OK)
	p, e = a.Prepare(2, bal(2, 1, 1))
	tells("another disk's", p, e, api.Promise{}, api.ErrState)
	p, e = a.Prepare(1, api.Ballot{})
	tells("none", p, e, api.Promise{}, api.ErrArg)
	a = opened(t, 2, crashed(t, d, 0, 0))
	tells("State", a.State(), api.OK, first, api.OK)
}

// refused looks whether Open answers that, and changes nothing.
func refused(t *testing.T, name string, node int, d *disk.Disk, want api.Errno) {
	t.Helper()
	was := d.Copy()
	if a, e := acceptor.Open(node, d); a != nil || e != want {
		t.Errorf("%s: Open(%d): %+v, %d, not %d", name, node, a, e, want)
	}
	if was == nil {
		return
	}
	x, _ := d.Read("meta")
	y, _ := was.Read("meta")
	if d.Waits() != was.Waits() || d.Bytes() != was.Bytes() || d.Down() != was.Down() || !slices.Equal(x, y) {
		t.Errorf("%s: the disk was changed: %x, not %x", name, x, y)
	}
}

// P9.1: which nodes there are; that goes ahead of all else.
func TestOpenNodes(t *testing.T) {
	down := with(t, []byte("none"))
	down.Crash(0, 0)
	for _, node := range []int{0, -1, 16, 17, 1 << 32, math.MinInt, math.MaxInt} {
		refused(t, "a disk", node, roomy(t, 1000), api.ErrArg)
		refused(t, "no disk", node, nil, api.ErrArg)
		refused(t, "one that is down", node, down, api.ErrArg)
		refused(t, "a spoilt one", node, with(t, []byte("none")), api.ErrArg)
	}
	for node := 1; node <= 15; node++ {
		is(t, "new", opened(t, node, roomy(t, 0)), node, model{})
		m := model{bal(7, 4, 1), bal(6, 5, 2), "v"}
		is(t, "old", opened(t, node, with(t, m.file())), node, m)
	}
}

// P9.1: a disk that is down; that goes ahead of what stands there.
func TestOpenDown(t *testing.T) {
	refused(t, "none", 1, nil, api.ErrDown)
	refused(t, "a zero one", 1, &disk.Disk{}, api.ErrDown)
	copied := *roomy(t, 100)
	refused(t, "a copied one", 1, &copied, api.ErrDown)
	for _, b := range [][]byte{nil, []byte("none"), model{promised: bal(1, 4, 1)}.file()} {
		d := with(t, b)
		d.Crash(0, 0)
		refused(t, "down", 1, d, api.ErrDown)
		d.Start()
		if m, ok := filed(b); ok {
			is(t, "up again", opened(t, 1, d), 1, m)
		} else {
			refused(t, "up again", 1, d, api.ErrForm)
		}
	}
}

// rising tells ballots that may be, rising.
func rising() []api.Ballot {
	return []api.Ballot{
		bal(1, 1, 1), bal(1, 1, 2), bal(1, 1, top), bal(1, 2, 1), bal(1, 15, 1), bal(1, 15, top),
		bal(2, 1, 1), bal(2, 1, top), bal(127, 4, 127), bal(128, 4, 128), bal(top-1, 15, top), bal(top, 1, 1), bal(top, 15, top),
	}
}

// P9.1: what stands in the file is the state; other files play no part, and opening changes nothing.
func TestOpenStands(t *testing.T) {
	for i, promised := range rising() {
		for _, accepted := range append([]api.Ballot{{}}, rising()[:i+1]...) {
			for _, value := range []string{"", "x", "\x00\xff", strings.Repeat("v", 127), strings.Repeat("v", 128), strings.Repeat("w", 16384-64)} {
				m := model{promised, accepted, value}
				d := with(t, m.file())
				is(t, "lasts", opened(t, 3, d), 3, m)
				d = roomy(t, 65536)
				d.Append("meta.old", []byte("none"))
				d.Append("met", model{}.file())
				d.Put("meta", m.file())
				is(t, "waits", opened(t, 3, d), 3, m)
				if d.Waits() != 3 {
					t.Errorf("%d wait", d.Waits())
				}
			}
		}
	}
	d := roomy(t, 100)
	d.Append("meta.old", []byte("none"))
	is(t, "no file", opened(t, 3, d), 3, model{})
	if d.Waits() != 1 || len(d.Names()) != 1 {
		t.Errorf("%d wait, of %q", d.Waits(), d.Names())
	}
	is(t, "nothing promised", opened(t, 3, with(t, model{}.file())), 3, model{})
}

// forms tells bytes that no file has, by what is wrong with them.
func forms() map[string][]byte {
	good := payload("abc", 3, 4, 1, 2, 5, 1)
	l := map[string][]byte{
		"none":                 {},
		"bytes":                []byte("none"),
		"eight noughts":        make([]byte, 8),
		"the payload":          good,
		"an empty record":      record(nil),
		"a byte ahead":         append([]byte{0}, record(good)...),
		"a byte behind":        append(record(good), 0),
		"two records":          append(record(good), record(good)...),
		"an empty one behind":  append(record(good), record(nil)...),
		"a byte in it, behind": record(append(slices.Clone(good), 0)),
		"no value":             record(good[:6]),
		"a value cut off":      record(good[:len(good)-1]),
		"a wide digit":         record(append([]byte{0x83, 0}, good[1:]...)),
		"five numbers":         record(payload("abc", 3, 4, 1, 2, 5)),
		"seven numbers":        record(payload("abc", 3, 4, 1, 2, 5, 1, 1)),
		"turned round":         record(payload("abc", 2, 5, 1, 3, 4, 1)),
	}
	for i := range record(good) {
		b := record(good)
		l[fmt.Sprintf("cut off at %d", i)] = b[:i]
		b = slices.Clone(b)
		b[i] ^= 1
		l[fmt.Sprintf("spoilt at %d", i)] = b
	}
	// A ballot that may not be, as the promised one, and as the accepted one.
	for _, x := range [][]uint64{
		{0, 4, 1}, {3, 0, 1}, {3, 4, 0}, {0, 0, 1}, {0, 4, 0}, {3, 0, 0}, {3, 16, 1}, {3, 1<<32 + 4, 1}, {3, 1 << 63, 1}, {3, 1<<64 - 4, 1},
		{3, 4, top + 1}, {3, 4, 1<<64 - 1},
	} {
		l[fmt.Sprint("promised: ", x)] = record(payload("", append(slices.Clone(x), 0, 0, 0)...))
		l[fmt.Sprint("accepted: ", x)] = record(payload("", append([]uint64{top, 15, top}, x...)...))
		l[fmt.Sprint("both: ", x)] = record(payload("", append(slices.Clone(x), x...)...))
	}
	l["a round too great"] = record(payload("", top+1, 4, 1, 0, 0, 0))
	l["both rounds too great"] = record(payload("", top+1, 4, 1, top+1, 4, 1))
	// An accepted one above the promised one.
	upwards := append([]api.Ballot{{}}, rising()...)
	for i, low := range upwards {
		for _, high := range upwards[i+1:] {
			l[fmt.Sprint(high, " above ", low)] = model{low, high, "v"}.file()
		}
	}
	return l
}

// P9.1: bytes that no file has.
func TestOpenForm(t *testing.T) {
	for name, b := range forms() {
		if _, ok := filed(b); ok {
			t.Errorf("%s: the model takes it", name)
		}
		refused(t, name, 1, with(t, b), api.ErrForm)
		d := roomy(t, 65536)
		d.Put("meta", b)
		refused(t, name+", waiting", 15, d, api.ErrForm)
	}
}

// P9.1: whatever stands in the file: what the words say.
func TestOpenDrawn(t *testing.T) {
	r := rand.New(rand.NewPCG(9, 1))
	good := 0
	for range 20000 {
		m := drawState(r)
		l := append(numbers(m.promised), numbers(m.accepted)...)
		if r.IntN(2) == 0 {
			l[r.IntN(6)] = one[uint64](r, 0, 1, 4, 15, 16, 255, top, top+1, 1<<63, 1<<64-1)
		}
		b := payload(m.value, l...)
		if r.IntN(4) == 0 {
			b[r.IntN(len(b))] = byte(r.IntN(256))
		}
		b = record(b)
		d := with(t, b)
		want, ok := filed(b)
		if !ok {
			refused(t, fmt.Sprintf("%x", b), 9, d, api.ErrForm)
			continue
		}
		good++
		is(t, fmt.Sprintf("%x", b), opened(t, 9, d), 9, want)
	}
	if good < 5000 || good > 15000 {
		t.Error(good)
	}
}

// P9.2, P9.3: ballots that may not be; that goes ahead of all else.
func TestBallots(t *testing.T) {
	for _, b := range strange() {
		for _, m := range []model{{}, {promised: bal(1, 4, 1)}, {bal(7, 4, 1), bal(6, 5, 2), "v"}} {
			d := with(t, m.file())
			a := opened(t, 3, d)
			for _, serial := range []uint64{1, 2} {
				for _, value := range []string{"", strings.Repeat("v", 16384)} {
					does(t, "up", a, 3, d, m, asked{serial, b, false, ""})
					does(t, "up", a, 3, d, m, asked{serial, b, true, value})
				}
			}
			d.Crash(0, 0)
			does(t, "down", a, 3, d, m, asked{1, b, false, ""})
			does(t, "down", a, 3, d, m, asked{1, b, true, "v"})
		}
	}
	for _, b := range rising() {
		d := roomy(t, 100)
		does(t, "may be", opened(t, 3, d), 3, d, model{}, asked{1, b, false, ""})
		d = roomy(t, 100)
		does(t, "may be", opened(t, 3, d), 3, d, model{}, asked{1, b, true, "v"})
	}
}

// P9.2, P9.3: of several errors the first one.
func TestErrors(t *testing.T) {
	m := model{promised: bal(5, 4, 1)}
	long := strings.Repeat("v", 16384-63)
	for _, c := range []struct {
		name   string
		down   bool
		serial uint64
		ballot api.Ballot
		accept bool
		value  string
		want   api.Errno
	}{
		{"down", true, 1, bal(6, 4, 1), false, "", api.ErrDown},
		{"down, ahead", true, 1, bal(4, 4, 1), false, "", api.ErrDown},
		{"down, another serial", true, 2, bal(6, 4, 1), false, "", api.ErrDown},
		{"down, another serial, long", true, 2, bal(6, 4, 1), true, long, api.ErrDown},
		{"down, long", true, 1, bal(6, 4, 1), true, long, api.ErrDown},
		{"another serial", false, 2, bal(6, 4, 1), false, "", api.ErrState},
		{"serial 0", false, 0, bal(6, 4, 1), false, "", api.ErrState},
		{"the last serial", false, 1<<64 - 1, bal(6, 4, 1), true, "v", api.ErrState},
		{"another serial, ahead", false, 2, bal(4, 4, 1), true, "v", api.ErrState},
		{"another serial, long", false, 2, bal(6, 4, 1), true, long, api.ErrState},
		{"another serial, full", false, 2, bal(top, 4, 1), false, "", api.ErrState},
		{"long", false, 1, bal(6, 4, 1), true, long, api.ErrLong},
		{"long, the same", false, 1, bal(5, 4, 1), true, long, api.ErrLong},
		{"long, ahead", false, 1, bal(4, 4, 1), true, long, api.ErrLong},
		{"long, full", false, 1, bal(top, 4, 1), true, long, api.ErrLong},
		{"full", false, 1, bal(top, 4, 1), false, "", api.ErrFull},
		{"full of a value", false, 1, bal(6, 4, 1), true, "v", api.ErrFull},
		{"ahead, and no room", false, 1, bal(4, 15, top), true, "vv", api.OK},
	} {
		d := roomy(t, len(m.file()))
		d.Put("meta", m.file())
		a := opened(t, 3, d)
		if c.down {
			d.Sync()
			d.Crash(0, 0)
		}
		_, e, _ := m.answer(d, asked{c.serial, c.ballot, c.accept, c.value})
		if e != c.want {
			t.Errorf("%s: the model: %d", c.name, e)
		}
		does(t, c.name, a, 3, d, m, asked{c.serial, c.ballot, c.accept, c.value})
	}
}

// P9.2, P9.3: which ballots are heeded, by which is promised.
func TestHeeded(t *testing.T) {
	upwards := append([]api.Ballot{{}}, rising()...)
	for i, promised := range upwards {
		for _, accepted := range []api.Ballot{{}, upwards[i/2], promised} {
			for k, b := range rising() {
				for _, accept := range []bool{false, true} {
					m := model{promised, accepted, "old"}
					if accepted == (api.Ballot{}) {
						m.value = ""
					}
					d := with(t, m.file())
					d.Append("other", []byte("waits"))
					a := opened(t, 3, d)
					next := does(t, "one", a, 3, d, m, asked{1, b, accept, "new"})
					if (next.promised == b) != (k+1 >= i) || d.Waits() == 1 != (k+1 < i) {
						t.Errorf("%v behind %v: %+v, %d wait", b, promised, next, d.Waits())
					}
					next = does(t, "again", a, 3, d, next, asked{1, b, accept, "again"})
					next = does(t, "then Prepare", a, 3, d, next, asked{1, b, false, ""})
					next = does(t, "then Accept", a, 3, d, next, asked{1, b, true, ""})
					is(t, "anew", opened(t, 3, crashed(t, d, 0, 0)), 3, next)
				}
			}
		}
	}
}

// P9.2: what is promised is what was heard, and what is accepted stays. P9.3: a value that is accepted later is in the place of the one ahead.
func TestRow(t *testing.T) {
	d := roomy(t, 65536)
	a := opened(t, 1, d)
	m := model{}
	for i, c := range []asked{
		{1, bal(2, 4, 1), false, ""}, {1, bal(2, 4, 1), true, "long value"}, {1, bal(2, 4, 1), true, "x"}, {1, bal(2, 4, 1), false, ""},
		{1, bal(3, 4, 1), false, ""}, {1, bal(2, 4, 1), true, "late"}, {1, bal(4, 5, 2), true, strings.Repeat("v", 16320)},
		{1, bal(4, 5, 1), true, "late"}, {1, bal(5, 5, 1), false, ""}, {1, bal(5, 5, 1), true, ""}, {1, bal(5, 4, 9), false, ""},
	} {
		m = does(t, fmt.Sprint(i), a, 1, d, m, c)
	}
	if m != (model{bal(5, 5, 1), bal(5, 5, 1), ""}) {
		t.Errorf("%+v", m)
	}
}

// P9.3: how long a value may be; whatever the ballots, there is room for one in a record.
func TestLongest(t *testing.T) {
	b := bal(top, 15, top)
	for n, want := range map[int]api.Errno{16384 - 64: api.OK, 16384 - 63: api.ErrLong, 16384: api.ErrLong, 16385: api.ErrLong, 65536: api.ErrLong, 16384 - 65: api.OK, 0: api.OK} {
		d := roomy(t, 65536)
		a := opened(t, 1, d)
		p, e := a.Accept(1, b, make([]byte, n))
		if e != want || (e == api.OK) != (p.Accepted == b) {
			t.Errorf("%d: %+v, %d", n, p, e)
		}
		if s := a.State(); e == api.OK && len(s.Value) != n || e != api.OK && !alike(s, model{}.promise(1)) {
			t.Errorf("%d: %d bytes", n, len(s.Value))
		}
		if s := opened(t, 1, crashed(t, d, 0, 0)).State(); e == api.OK && len(s.Value) != n {
			t.Errorf("%d, opened anew: %d bytes", n, len(s.Value))
		}
		if p, e := a.Accept(1, b, nil); e != api.OK || p.Value != nil {
			t.Errorf("%d: then none: %+v, %d", n, p, e)
		}
	}
	// A file with a longer value than Accept takes is one: but a record has no room for it and for greater ballots.
	m := model{bal(1, 4, 1), bal(1, 4, 1), strings.Repeat("v", 16384-6-3)}
	d := with(t, m.file())
	a := opened(t, 1, d)
	is(t, "a longer one", a, 1, m)
	m = does(t, "as great ballots", a, 1, d, m, asked{1, bal(127, 15, 127), false, ""})
	if p, e := a.Prepare(1, b); e != api.ErrFull || !alike(p, api.Promise{}) {
		t.Errorf("greater ballots: %+v, %d", p, e)
	}
	is(t, "no room", a, 1, m)
	does(t, "another value", a, 1, d, m, asked{1, b, true, "v"})
}

// P9.2, P9.3: how much room is needed: that of the file, in the place of the one that is there. Where there is none, nothing is changed.
func TestFull(t *testing.T) {
	small, great := bal(1, 4, 1), bal(top, 15, top)
	for _, other := range []int{0, 1, 100} {
		for _, accept := range []bool{false, true} {
			first := asked{1, small, accept, strings.Repeat("v", 30)}
			then := asked{1, great, accept, strings.Repeat("v", 40)}
			d := roomy(t, 1000)
			m, _, _ := model{}.answer(d, first)
			n, _, _ := m.answer(d, then)
			for _, size := range []int{0, 1, 7, len(m.file()) - 1, len(m.file()), len(m.file()) + 1, len(n.file()) - 1, len(n.file()), len(n.file()) + 1} {
				d = roomy(t, other+size)
				d.Append("other", make([]byte, other))
				a := opened(t, 1, d)
				was := does(t, "first", a, 1, d, model{}, first)
				if (was == m) != (size >= len(m.file())) {
					t.Errorf("%d, %d of %d: %+v", other, size, len(m.file()), was)
				}
				d.Append("x", nil)
				is := does(t, "then", a, 1, d, was, then)
				if (is.promised == great) != (size >= len(n.file())) {
					t.Errorf("%d, %d of %d: %+v", other, size, len(n.file()), is)
				}
				if was == m {
					does(t, "ahead", a, 1, d, is, asked{1, bal(1, 3, 9), accept, strings.Repeat("v", 60)})
				}
				d.Remove("other")
				does(t, "once there is room", a, 1, d, is, asked{1, bal(top, 15, top), accept, ""})
			}
		}
	}
}

// P9.2, P9.3, P9.4: a disk that was lost has another serial; one that is down tells nothing, but the acceptor its state.
func TestLost(t *testing.T) {
	d := roomy(t, 1000)
	m := model{}
	d.Wipe()
	d.Wipe()
	a := opened(t, 1, d)
	m = does(t, "the serial of the first disk", a, 1, d, m, asked{1, bal(1, 4, 1), true, "v"})
	m = does(t, "of the second one", a, 1, d, m, asked{2, bal(1, 4, 1), false, ""})
	m = does(t, "of the third one", a, 1, d, m, asked{3, bal(1, 4, 1), true, "v"})
	d.Crash(0, 0)
	m = does(t, "down", a, 1, d, m, asked{3, bal(2, 4, 1), false, ""})
	is(t, "down", a, 1, m)
	d.Start()
	a = opened(t, 1, d)
	is(t, "anew", a, 1, m)
	d.Wipe()
	m = does(t, "lost", a, 1, d, m, asked{3, bal(2, 4, 1), true, "w"})
	is(t, "lost, opened", opened(t, 1, d), 1, model{})
}

// P9.4: a nil acceptor, and those that Open did not make.
func TestNotMade(t *testing.T) {
	d := roomy(t, 1000)
	a := opened(t, 1, d)
	a.Accept(1, bal(1, 4, 1), []byte("v"))
	copied := *a
	for name, x := range map[string]*acceptor.Acceptor{"nil": nil, "zero": {}, "copied": &copied} {
		for _, b := range append(strange(), bal(1, 4, 1), bal(2, 4, 1)) {
			for serial := range uint64(3) {
				if p, e := x.Prepare(serial, b); e != api.ErrArg || !alike(p, api.Promise{}) {
					t.Errorf("%s: Prepare: %+v, %d", name, p, e)
				}
				if p, e := x.Accept(serial, b, make([]byte, serial*16384)); e != api.ErrArg || !alike(p, api.Promise{}) {
					t.Errorf("%s: Accept: %+v, %d", name, p, e)
				}
			}
		}
		if s := x.State(); !alike(s, api.Promise{}) {
			t.Errorf("%s: %+v", name, s)
		}
	}
	is(t, "the other one", a, 1, model{bal(1, 4, 1), bal(1, 4, 1), "v"})
}

// P9.4: what is handed in stays, with the room behind its end, and is not kept.
func TestHandedIn(t *testing.T) {
	d := roomy(t, 1000)
	a := opened(t, 1, d)
	long := []byte("value and more")
	value := long[:5]
	if _, e := a.Accept(1, bal(1, 4, 1), value); e != api.OK || string(long) != "value and more" {
		t.Errorf("%d, %q", e, long)
	}
	copy(long, "VALUE AND MORE")
	m := model{bal(1, 4, 1), bal(1, 4, 1), "value"}
	is(t, "changed by who handed it in", a, 1, m)
	m = does(t, "written again", a, 1, d, m, asked{1, bal(2, 4, 1), false, ""})
	is(t, "opened anew", opened(t, 1, crashed(t, d, 0, 0)), 1, m)
}

// P9.4: what is answered is new memory.
func TestAnswered(t *testing.T) {
	d := roomy(t, 1000)
	a := opened(t, 1, d)
	a.Accept(1, bal(1, 4, 1), []byte("value"))
	for range 2 {
		m := model{bal(2, 4, 1), bal(1, 4, 1), "value"}
		for range 2 {
			p, _ := a.Prepare(1, bal(2, 4, 1))
			q, _ := a.Prepare(1, bal(1, 1, 1))
			for _, s := range []api.Promise{p, q, a.State(), a.State()} {
				if string(s.Value) != "value" {
					t.Errorf("%q", s.Value)
				}
				clear(s.Value)
				_ = append(s.Value[:0], "other"...)
			}
			is(t, "changed by who was answered", a, 1, m)
		}
		a = opened(t, 1, crashed(t, d, 0, 0))
		is(t, "opened anew", a, 1, m)
	}
}

// P9.2, P9.3: whatever is asked: what the words say.
func TestDrawn(t *testing.T) {
	r := rand.New(rand.NewPCG(9, 2))
	seen := map[api.Errno]int{}
	for range 600 {
		capacity := one(r, 30, 60, 200, 500, 65536)
		d := roomy(t, capacity)
		node, m := 1+r.IntN(15), model{}
		if x := drawState(r); r.IntN(2) == 0 && d.Put("meta", x.file()) == api.OK {
			m = x
		}
		a := opened(t, node, d)
		for range 30 {
			c := asked{1, drawBallot(r, 9), r.IntN(2) == 0, drawValue(r)}
			switch r.IntN(12) {
			case 0:
				c.ballot = one(r, strange()...)
			case 1:
				c.serial = one[uint64](r, 0, 2, 3)
			case 2:
				c.value = strings.Repeat("v", one(r, 16320, 16321, 16384))
			case 3:
				c.ballot = one(r, m.promised, m.accepted)
			case 4:
				d.Append(one(r, "other", "x"), make([]byte, r.IntN(20)))
			case 5:
				d.Remove("other")
			case 6:
				if d.Down() {
					d.Start()
					a = opened(t, node, d)
				} else {
					d.Sync()
					d.Crash(0, 0)
				}
			}
			_, e, _ := m.answer(d, c)
			seen[e]++
			m = does(t, "drawn", a, node, d, m, c)
		}
	}
	for _, e := range []api.Errno{api.OK, api.ErrArg, api.ErrDown, api.ErrState, api.ErrLong, api.ErrFull} {
		if seen[e] < 50 {
			t.Errorf("%d comes %d times", e, seen[e])
		}
	}
}
