package bookie_test

import (
	"bytes"
	"encoding/binary"
	"fmt"
	"hash/crc32"
	"math/rand/v2"
	"slices"
	"testing"

	"scrivener/api"
	"scrivener/bookie"
	"scrivener/disk"
	"scrivener/store"
)

// top is the greatest number that ledgers, entries, epochs and lacs may have.
const top = 1<<62 - 1

// What is asked.

// at tells the place of node 4 with its first disk, which the tests' bookies are, where nothing else is said.
func at() api.Place { return api.Place{Node: 4, Serial: 1} }

// add asks to have an entry.
func add(ledger, n, epoch uint64, body string) api.Req {
	return api.Req{To: at(), Kind: api.ReqAdd, Ledger: ledger, N: n, Epoch: epoch, Body: []byte(body)}
}

// sure asks the same, and tells up to which entry the ledger's are sure.
func sure(r api.Req, lac uint64) api.Req {
	r.Sure = lac
	return r
}

// copied asks the same, of a copy, or of what looks like one.
func copied(r api.Req, n int) api.Req {
	r.Copy = n
	return r
}

// fence asks to refuse lesser epochs.
func fence(ledger, epoch uint64) api.Req {
	return api.Req{To: at(), Kind: api.ReqFence, Ledger: ledger, Epoch: epoch}
}

// get asks for an entry.
func get(ledger, n uint64) api.Req {
	return api.Req{To: at(), Kind: api.ReqGet, Ledger: ledger, N: n}
}

// free tells which ledgers may go.
func free(below uint64, keep ...uint64) api.Req {
	return api.Req{To: at(), Kind: api.ReqFree, N: below, Keep: keep}
}

// hello asks whether it can be written.
func hello() api.Req { return api.Req{To: at(), Kind: api.ReqHello} }

// of asks the same of another place.
func of(r api.Req, node int, serial uint64) api.Req {
	r.To = api.Place{Node: node, Serial: serial}
	return r
}

// told tells an answer to what was asked, as the place of node 4 with its first disk gives it.
func told(r api.Req, code int, lac uint64, body string) api.Resp {
	return api.Resp{From: at(), Kind: r.Kind, Code: code, Ledger: r.Ledger, N: r.N, Epoch: r.Epoch, Sure: lac, Body: []byte(body)}
}

// alike tells whether two answers are the same, no bytes and none being one.
func alike(a, b api.Given) bool {
	same := bytes.Equal(a.Resp.Body, b.Resp.Body)
	x, y := a.Resp, b.Resp
	return same && a.To == b.To && x.From == y.From && x.Kind == y.Kind && x.Code == y.Code && x.Ledger == y.Ledger && x.N == y.N && x.Epoch == y.Epoch && x.Sure == y.Sure
}

// Logs, as a disk has them, by a coder of their own.

// record tells the record of a payload.
func record(payload []byte) []byte {
	n := binary.LittleEndian.AppendUint32(nil, uint32(len(payload)))
	check := crc32.Checksum(append(slices.Clone(n), payload...), crc32.MakeTable(crc32.Castagnoli))
	return append(binary.LittleEndian.AppendUint32(n, check), payload...)
}

// short tells a kind and numbers as a payload.
func short(kind byte, nums ...uint64) []byte {
	b := []byte{kind}
	for _, x := range nums {
		b = binary.AppendUvarint(b, x)
	}
	return b
}

// entryOf tells the record of an entry.
func entryOf(ledger, n, lac uint64, body string) []byte {
	return record(append(short(1, ledger, n, lac, uint64(len(body))), body...))
}

// fenceOf tells the record of a fence.
func fenceOf(ledger, epoch uint64) []byte { return record(short(2, ledger, epoch)) }

// floorOf tells the record of a floor.
func floorOf(number uint64, keeps ...uint64) []byte {
	return record(short(3, append([]uint64{number, uint64(len(keeps))}, keeps...)...))
}

// The model: a bookie as the chapter's words say it, on a store of its own, on a disk of its own.

type model struct {
	node  int
	disk  *disk.Disk
	store *store.Store
	waits []api.Given
}

// modelOn tells the model of a bookie on a disk's copy.
func modelOn(t *testing.T, node int, d *disk.Disk) *model {
	t.Helper()
	c := d.Copy()
	s, e := store.Open(c)
	if e != api.OK {
		t.Fatal(e)
	}
	return &model{node: node, disk: c, store: s}
}

// mayBe tells whether that may be asked.
func mayBe(r api.Req) bool {
	in := func(x, low uint64) bool { return low <= x && x <= top }
	key := in(r.Ledger, 1) && in(r.N, 1)
	switch r.Kind {
	case 1:
		return key && in(r.Epoch, 0) && in(r.Sure, 0) && len(r.Body) <= 200
	case 2:
		return in(r.Ledger, 1) && in(r.Epoch, 1)
	case 3:
		return key
	case 4:
		return len(r.Keep) <= 64
	}
	return r.Kind == 5
}

// take tells what Take should be answered, and does it.
func (m *model) take(from int, r api.Req) bool {
	if m.disk.Down() || from < 1 || from > 15 || len(m.waits) == 64 || !mayBe(r) {
		return false
	}
	a := api.Resp{From: api.Place{Node: m.node, Serial: m.disk.Serial()}, Kind: r.Kind, Ledger: r.Ledger, N: r.N, Epoch: r.Epoch}
	if r.Kind != 5 && r.To != a.From {
		a.Code = 4
	} else {
		a.Code, a.Body = m.done(r)
		if r.Kind == 2 || r.Kind == 3 {
			a.Sure = m.store.Lac(r.Ledger)
		}
	}
	m.waits = append(m.waits, api.Given{To: from, Resp: a})
	return true
}

// done does what is asked of its place, and tells the Code and the Body.
func (m *model) done(r api.Req) (int, []byte) {
	s, k := m.store, api.Key{Ledger: r.Ledger, N: r.N}
	there, ok := s.Get(k)
	full := func(e api.Errno) int {
		if e != api.OK {
			return 2
		}
		return 0
	}
	switch {
	case r.Kind == 1 && (r.Copy != 1 && s.Fenced(r.Ledger) > r.Epoch || s.Dead(r.Ledger)):
		return 1, nil
	case r.Kind == 1 && ok && !bytes.Equal(there, r.Body):
		return 3, nil
	case r.Kind == 1:
		return full(s.Add(k, r.Sure, r.Body)), nil
	case r.Kind == 2 && s.Dead(r.Ledger):
		return 1, nil
	case r.Kind == 2:
		return full(s.Fence(r.Ledger, r.Epoch)), nil
	case r.Kind == 3 && ok:
		return 0, there
	case r.Kind == 3:
		return 3, nil
	case r.Kind == 4:
		return full(s.Free(r.N, r.Keep...)), nil
	case s.Size()+240 > m.disk.Capacity()/3:
		return 2, nil
	}
	return 0, nil
}

// flush tells what Flush should be answered, and does it.
func (m *model) flush() ([]api.Given, api.Errno) {
	out := m.waits
	m.waits = nil
	if m.disk.Down() {
		return nil, api.ErrDown
	}
	return out, m.disk.Sync()
}

// Bookies beside their models.

// both is a bookie on a disk, and its model, on another disk that is the same.
type both struct {
	*testing.T
	b *bookie.Bookie
	d *disk.Disk
	m *model
}

// roomy tells a new disk.
func roomy(t *testing.T, capacity int) *disk.Disk {
	t.Helper()
	d, e := disk.New(capacity)
	if e != api.OK {
		t.Fatal(e)
	}
	return d
}

// with tells a disk whose log has those records, and lasts.
func with(t *testing.T, capacity int, records ...[]byte) *disk.Disk {
	t.Helper()
	d := roomy(t, capacity)
	if d.Put("log", slices.Concat(records...)) != api.OK || d.Sync() != api.OK {
		t.Fatal(capacity)
	}
	return d
}

// opened tells a bookie of a node on a disk.
func opened(t *testing.T, node int, d *disk.Disk) *bookie.Bookie {
	t.Helper()
	b, e := bookie.Open(node, d)
	if e != api.OK || b == nil {
		t.Fatalf("Open(%d): %v, %d", node, b, e)
	}
	return b
}

// on tells a bookie of node 4 on a disk, beside its model.
func on(t *testing.T, d *disk.Disk) *both {
	t.Helper()
	x := &both{T: t, m: modelOn(t, 4, d), d: d}
	x.b = opened(t, 4, d)
	x.is("opened")
	return x
}

// files tells what a disk's files have.
func files(d *disk.Disk) string {
	s := fmt.Sprint(d.Waits(), d.Down(), d.Serial())
	for _, name := range d.Names() {
		b, _ := d.Read(name)
		s += fmt.Sprintf(" %s %x", name, b)
	}
	return s
}

// is looks whether the bookie is as its model, and its disk as that one's.
func (x *both) is(name string) {
	x.Helper()
	if x.b.Waits() != len(x.m.waits) {
		x.Fatalf("%s: %d wait, not %d", name, x.b.Waits(), len(x.m.waits))
	}
	if p := x.b.Place(); p != (api.Place{Node: x.m.node, Serial: x.m.disk.Serial()}) {
		x.Fatalf("%s: the place %v", name, p)
	}
	if k := x.b.Keys(); !slices.Equal(k, x.m.store.Keys()) {
		x.Fatalf("%s: %v, not %v", name, k, x.m.store.Keys())
	}
	for _, k := range append(x.m.store.Keys(), api.Key{}, api.Key{Ledger: 1, N: 1}, api.Key{Ledger: top, N: top}) {
		want, there := x.m.store.Get(k)
		if b, ok := x.b.Get(k); ok != there || !bytes.Equal(b, want) {
			x.Fatalf("%s: %v: %q, %v, not %q, %v", name, k, b, ok, want, there)
		}
	}
	for _, l := range []uint64{0, 1, 2, 3, 4, 5, 6, 7, 8, 9, 10, top} {
		if f := x.b.Fenced(l); f != x.m.store.Fenced(l) {
			x.Fatalf("%s: ledger %d is fenced by %d, not %d", name, l, f, x.m.store.Fenced(l))
		}
	}
	if got, want := files(x.d), files(x.m.disk); got != want {
		x.Fatalf("%s: the disk: %s, not %s", name, got, want)
	}
}

// take asks, and looks whether it is taken, and what comes of it.
func (x *both) take(name string, from int, r api.Req) bool {
	x.Helper()
	want := x.m.take(from, r)
	if got := x.b.Take(from, r); got != want {
		x.Fatalf("%s: Take(%d, %+v): %v", name, from, r, got)
	}
	x.is(name)
	return want
}

// flush looks at the answers that waited, and tells them.
func (x *both) flush(name string) []api.Given {
	x.Helper()
	want, code := x.m.flush()
	got, e := x.b.Flush()
	if e != code || !slices.EqualFunc(got, want, alike) {
		x.Fatalf("%s: Flush: %+v, %d, not %+v, %d", name, got, e, want, code)
	}
	x.is(name)
	return got
}

// answers has that be asked, looks whether it is answered so, and whether it was taken.
func (x *both) answers(name string, r api.Req, code int, lac uint64, body string) {
	x.Helper()
	if !x.take(name, 9, r) {
		x.Fatalf("%s: %+v is not taken", name, r)
	}
	want := api.Given{To: 9, Resp: told(r, code, lac, body)}
	if got := x.flush(name); len(got) != 1 || !alike(got[0], want) {
		x.Fatalf("%s: %+v, not %+v", name, got, want)
	}
}

// crash has both disks crash, and begin anew, and opens the bookie anew.
func (x *both) crash(keep, torn int) {
	x.Helper()
	crashed(x.T, x.m.disk, keep, torn)
	x.d = crashed(x.T, x.d, keep, torn)
	x.reopen()
}

// reopen opens the bookie anew, and its model.
func (x *both) reopen() {
	x.Helper()
	x.m = modelOn(x.T, x.m.node, x.m.disk)
	x.b = opened(x.T, x.m.node, x.d)
	x.is("opened anew")
}

// crashed has a disk crash, and begin anew.
func crashed(t *testing.T, d *disk.Disk, keep, torn int) *disk.Disk {
	t.Helper()
	if e, f := d.Crash(keep, torn), d.Start(); e != api.OK || f != api.OK {
		t.Fatal(e, f)
	}
	return d
}

// What is asked, drawn from a row of chance that is the same at each run.

// one draws one of a row.
func one[T any](r *rand.Rand, l ...T) T { return l[r.IntN(len(l))] }

// drawReq draws what may be asked, of few ledgers, entries and epochs, so that the same ones come again.
func drawReq(r *rand.Rand, ledgers uint64) api.Req {
	ledger, n, epoch := 1+r.Uint64N(ledgers), 1+r.Uint64N(4), 1+r.Uint64N(4)
	a := hello()
	switch r.IntN(12) {
	case 0, 1, 2, 3, 4:
		a = copied(sure(add(ledger, n, epoch, one(r, "", "a", "b", "abc", string(make([]byte, r.IntN(60))))), r.Uint64N(5)), one(r, 0, 0, 1, 2))
	case 5, 6:
		a = fence(ledger, epoch)
	case 7, 8, 9:
		a = get(ledger, n)
		a.Epoch = r.Uint64N(9)
	case 10:
		a = free(r.Uint64N(ledgers+2), drawn(r, ledgers)...)
	}
	if r.IntN(12) == 0 {
		a = of(a, one(r, 4, 4, 5, 0), one[uint64](r, 0, 1, 2, 3))
	}
	return a
}

// drawn draws a few ledgers.
func drawn(r *rand.Rand, ledgers uint64) []uint64 {
	l := make([]uint64, r.IntN(5))
	for i := range l {
		l[i] = r.Uint64N(ledgers + 2)
	}
	return l
}

// spoilt draws what may be asked, or not, with numbers about all edges in the place of one of its own.
func spoilt(r *rand.Rand, a api.Req) api.Req {
	n := one[uint64](r, 0, 1, 2, 3, 127, 128, top-1, top, top+1, 1<<63, 1<<64-1)
	switch r.IntN(7) {
	case 0:
		a.Ledger = n
	case 1:
		a.N = n
	case 2:
		a.Epoch = n
	case 3:
		a.Sure = n
	case 4:
		a.Body = make([]byte, one(r, 0, 199, 200, 201, 300))
	case 5:
		a.Keep = make([]uint64, one(r, 0, 63, 64, 65, 100))
	case 6:
		a.Kind = one(r, -1<<63, -1, 0, 1, 2, 3, 4, 5, 6, 1<<32+1, 1<<63-1)
	}
	return a
}
