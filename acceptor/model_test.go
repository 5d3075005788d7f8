package acceptor_test

import (
	"encoding/binary"
	"hash/crc32"
	"math/rand/v2"
	"slices"
	"testing"

	"scrivener/acceptor"
	"scrivener/api"
	"scrivener/disk"
)

// top is the greatest number that rounds and lives may have.
const top = 1<<62 - 1

// The model: an acceptor as the chapter's words say it, not by way of the package, nor of those below it.

// model is a state: what is promised, and accepted, and by that which value.
type model struct {
	promised, accepted api.Ballot
	value              string
}

// numbers tells a ballot's three numbers.
func numbers(b api.Ballot) []uint64 { return []uint64{b.Round, uint64(b.Node), b.Inc} }

// order tells which of two ballots that may be, or are zero, is ahead.
func order(a, b api.Ballot) int { return slices.Compare(numbers(a), numbers(b)) }

// may tells whether a ballot may be.
func may(b api.Ballot) bool {
	return b.Round >= 1 && b.Round <= top && b.Node >= 1 && b.Node <= 15 && b.Inc >= 1 && b.Inc <= top
}

// payload tells numbers, and behind them a text.
func payload(text string, l ...uint64) []byte {
	var b []byte
	for _, x := range append(slices.Clone(l), uint64(len(text))) {
		b = binary.AppendUvarint(b, x)
	}
	return append(b, text...)
}

// record tells a payload's record.
func record(payload []byte) []byte {
	n := binary.LittleEndian.AppendUint32(nil, uint32(len(payload)))
	check := crc32.Checksum(append(slices.Clone(n), payload...), crc32.MakeTable(crc32.Castagnoli))
	return append(binary.LittleEndian.AppendUint32(n, check), payload...)
}

// file tells the bytes that a state's file has.
func (m model) file() []byte {
	return record(payload(m.value, append(numbers(m.promised), numbers(m.accepted)...)...))
}

// promise tells a state as the acceptor of that node should.
func (m model) promise(node int) api.Promise {
	return api.Promise{From: node, Promised: m.promised, Accepted: m.accepted, Value: []byte(m.value)}
}

// filed tells the state whose file has those bytes; false: none has.
func filed(b []byte) (model, bool) {
	if len(b) < 8 {
		return model{}, false
	}
	at := b[8:]
	if !slices.Equal(record(at), b) {
		return model{}, false
	}
	var l [7]uint64
	for i := range l {
		x, n := binary.Uvarint(at)
		if n <= 0 || n > 1 && at[n-1] == 0 {
			return model{}, false
		}
		l[i], at = x, at[n:]
	}
	if l[6] != uint64(len(at)) || l[1] > 15 || l[4] > 15 || len(b) > 8+16384 {
		return model{}, false
	}
	m := model{promised: bal(l[0], int(l[1]), l[2]), accepted: bal(l[3], int(l[4]), l[5]), value: string(at)}
	for _, x := range []api.Ballot{m.promised, m.accepted} {
		if x != (api.Ballot{}) && !may(x) {
			return model{}, false
		}
	}
	return m, order(m.accepted, m.promised) <= 0
}

// asked is a call: Prepare, or Accept of a value.
type asked struct {
	serial uint64
	ballot api.Ballot
	accept bool
	value  string
}

// of has it done by an acceptor.
func (c asked) of(a *acceptor.Acceptor) (api.Promise, api.Errno) {
	if c.accept {
		return a.Accept(c.serial, c.ballot, []byte(c.value))
	}
	return a.Prepare(c.serial, c.ballot)
}

// answer tells what a call should answer on a disk as it is, the state then, and whether that is written.
func (m model) answer(d *disk.Disk, c asked) (model, api.Errno, bool) {
	if !may(c.ballot) {
		return m, 1, false
	}
	if d.Down() {
		return m, 6, false
	}
	if d.Serial() != c.serial {
		return m, 5, false
	}
	if c.accept && len(c.value) > 16384-64 {
		return m, 7, false
	}
	if order(c.ballot, m.promised) < 0 {
		return m, 0, false
	}
	next := model{c.ballot, m.accepted, m.value}
	if c.accept {
		next = model{c.ballot, c.ballot, c.value}
	}
	if d.Bytes()-d.Size("meta")+len(next.file()) > d.Capacity() {
		return m, 3, false
	}
	return next, 0, true
}

// bal tells a ballot.
func bal(round uint64, node int, inc uint64) api.Ballot {
	return api.Ballot{Round: round, Node: node, Inc: inc}
}

// alike tells whether two promises are the same; a value that is none is the same as an empty one.
func alike(a, b api.Promise) bool {
	return a.From == b.From && a.Promised == b.Promised && a.Accepted == b.Accepted && string(a.Value) == string(b.Value)
}

// roomy tells a disk of that capacity.
func roomy(t *testing.T, capacity int) *disk.Disk {
	t.Helper()
	d, e := disk.New(capacity)
	if e != api.OK {
		t.Fatal(e)
	}
	return d
}

// with tells a disk whose file has those bytes, and lasts.
func with(t *testing.T, b []byte) *disk.Disk {
	t.Helper()
	d := roomy(t, 65536)
	if d.Put("meta", b) != api.OK || d.Sync() != api.OK {
		t.Fatal(len(b))
	}
	return d
}

// opened tells the acceptor of a node on a disk.
func opened(t *testing.T, node int, d *disk.Disk) *acceptor.Acceptor {
	t.Helper()
	a, e := acceptor.Open(node, d)
	if e != api.OK || a == nil {
		t.Fatalf("Open(%d): %v, %d", node, a, e)
	}
	return a
}

// crashed has a disk crash, and begin anew.
func crashed(t *testing.T, d *disk.Disk, keep, torn int) *disk.Disk {
	t.Helper()
	if e, f := d.Crash(keep, torn), d.Start(); e != api.OK || f != api.OK {
		t.Fatal(e, f)
	}
	return d
}

// is looks whether an acceptor's state is that of a model.
func is(t *testing.T, name string, a *acceptor.Acceptor, node int, m model) {
	t.Helper()
	if s := a.State(); !alike(s, m.promise(node)) {
		t.Errorf("%s: %+v, not %+v", name, s, m)
	}
}

// does has a call done, and looks whether its answer, the state and the disk are as they should be then; it tells the model's state.
func does(t *testing.T, name string, a *acceptor.Acceptor, node int, d *disk.Disk, m model, c asked) model {
	t.Helper()
	waits, names, was := d.Waits(), d.Names(), d.Copy()
	next, e, written := m.answer(d, c)
	want := next.promise(node)
	if c.accept {
		want.Value = nil
	}
	if e != api.OK {
		want = api.Promise{}
	}
	if p, got := c.of(a); got != e || !alike(p, want) {
		t.Errorf("%s, %+v: %+v, %d, not %+v, %d", name, c, p, got, want, e)
	}
	is(t, name, a, node, next)
	if written {
		b, f := d.Read("meta")
		if f != api.OK || !slices.Equal(b, next.file()) {
			t.Errorf("%s, %+v: the file: %x, not %x", name, c, b, next.file())
		}
		if waits = 0; !slices.Contains(names, "meta") {
			names = append(names, "meta")
			slices.Sort(names)
		}
		if was.Down() || was.Put("meta", next.file()) != api.OK {
			t.Errorf("%s, %+v: written, though it may not be", name, c)
		}
	}
	if d.Waits() != waits || !slices.Equal(d.Names(), names) || d.Bytes() != was.Bytes() || d.Down() != was.Down() {
		t.Errorf("%s, %+v: %d wait of %q, %d bytes", name, c, d.Waits(), d.Names(), d.Bytes())
	}
	for _, f := range was.Names() {
		if x, _ := d.Read(f); f != "meta" || !written {
			if y, _ := was.Read(f); !slices.Equal(x, y) {
				t.Errorf("%s, %+v: the file %s: %x, not %x", name, c, f, x, y)
			}
		}
	}
	return next
}

// Calls and states, drawn from a row of chance that is the same at each run.

// one draws one of a row.
func one[T any](r *rand.Rand, l ...T) T { return l[r.IntN(len(l))] }

// drawBallot draws a ballot that may be, of few lives and rounds, so that the same ones come again.
func drawBallot(r *rand.Rand, rounds uint64) api.Ballot {
	return bal(1+r.Uint64N(rounds), one(r, 4, 5, 15), one[uint64](r, 1, 2, top))
}

// drawValue draws a value.
func drawValue(r *rand.Rand) string {
	return string(slices.Repeat([]byte{byte(r.IntN(256))}, one(r, 0, 1, 2, 20, r.IntN(300))))
}

// drawState draws a state that may be.
func drawState(r *rand.Rand) model {
	m := model{promised: drawBallot(r, 9), accepted: drawBallot(r, 9), value: drawValue(r)}
	switch r.IntN(6) {
	case 0:
		m = model{promised: m.promised}
	case 1:
		m.promised = bal(one[uint64](r, 9, 127, 128, top), 15, top)
	case 2:
		m.accepted = m.promised
	}
	if order(m.accepted, m.promised) > 0 {
		m.promised, m.accepted = m.accepted, m.promised
	}
	return m
}

// strange tells ballots that may not be.
func strange() []api.Ballot {
	return []api.Ballot{
		{}, bal(0, 4, 1), bal(1, 0, 1), bal(1, 4, 0), bal(top+1, 4, 1), bal(1, 4, top+1), bal(1<<64-1, 4, 1), bal(1, 4, 1<<64-1),
		bal(1, 16, 1), bal(1, -1, 1), bal(1, 1<<62, 1), bal(1, -1<<63, 1), bal(9, -4, 9), bal(0, 0, 1), bal(1, 0, 0),
	}
}
