package store_test

import (
	"encoding/binary"
	"fmt"
	"hash/crc32"
	"math/rand/v2"
	"slices"
	"testing"

	"scrivener/api"
	"scrivener/disk"
	"scrivener/store"
)

// top is the greatest number that ledgers, entries, epochs and lacs may have.
const top = 1<<62 - 1

// The model: a store as the chapter's words say it, by the rows of its log alone, not by way of the package, nor of those below it.

// row is what a record of the log says: of an entry its ledger, its number, its lac and its text; of a fence the ledger, the epoch; of a floor the number, how many ledgers are kept, and these.
type row struct {
	kind byte
	nums []uint64
	text string
}

// entryRow tells the row of an entry.
func entryRow(k api.Key, lac uint64, text string) row {
	return row{1, []uint64{k.Ledger, k.N, lac}, text}
}

// fenceRow tells the row of a fence.
func fenceRow(ledger, epoch uint64) row { return row{2, []uint64{ledger, epoch}, ""} }

// floorRow tells the row of a floor.
func floorRow(number uint64, keeps ...uint64) row {
	return row{3, append([]uint64{number, uint64(len(keeps))}, keeps...), ""}
}

// payload tells a row's bytes.
func (r row) payload() []byte {
	b := []byte{r.kind}
	for _, x := range r.nums {
		b = binary.AppendUvarint(b, x)
	}
	if r.kind == 1 {
		b = append(binary.AppendUvarint(b, uint64(len(r.text))), r.text...)
	}
	return b
}

// record tells a payload's record.
func record(payload []byte) []byte {
	n := binary.LittleEndian.AppendUint32(nil, uint32(len(payload)))
	check := crc32.Checksum(append(slices.Clone(n), payload...), crc32.MakeTable(crc32.Castagnoli))
	return append(binary.LittleEndian.AppendUint32(n, check), payload...)
}

// may tells whether a log may have a row, as the first one or behind others.
func (r row) may(first bool) bool {
	in := func(x, low, high uint64) bool { return low <= x && x <= high }
	switch {
	case r.kind == 1 && len(r.nums) == 3:
		return in(r.nums[0], 1, top) && in(r.nums[1], 1, top) && in(r.nums[2], 0, top) && len(r.text) <= 200
	case r.kind == 2 && len(r.nums) == 2:
		return in(r.nums[0], 1, top) && in(r.nums[1], 1, top)
	case r.kind == 3 && len(r.nums) >= 2 && first:
		keeps := r.nums[2:]
		for i, l := range keeps {
			if !in(l, 1, r.nums[0]-1) || i > 0 && keeps[i-1] >= l {
				return false
			}
		}
		return in(r.nums[0], 1, top+1) && r.nums[1] == uint64(len(keeps)) && len(keeps) <= 64
	}
	return false
}

// rowOf tells the row that has those bytes, whether it may be or not; false: none has.
func rowOf(b []byte) (row, bool) {
	if len(b) == 0 {
		return row{}, false
	}
	r, left, whole := row{kind: b[0]}, b[1:], true
	number := func() uint64 {
		x, n := binary.Uvarint(left)
		if n <= 0 || n > 1 && left[n-1] == 0 {
			whole, left = false, nil
			return 0
		}
		left = left[n:]
		return x
	}
	numbers := map[byte]int{1: 3, 2: 2, 3: 2}[r.kind]
	for range numbers {
		r.nums = append(r.nums, number())
	}
	switch r.kind {
	case 1:
		if n := number(); n != uint64(len(left)) {
			return row{}, false
		}
		r.text, left = string(left), nil
	case 3:
		for len(left) > 0 {
			r.nums = append(r.nums, number())
		}
	}
	return r, whole && len(left) == 0 && numbers > 0
}

// model is a log.
type model struct{ rows []row }

// with tells a log with one more row.
func (m model) with(rows ...row) model { return model{append(slices.Clone(m.rows), rows...)} }

// bytes tells a log's bytes.
func (m model) bytes() []byte {
	var b []byte
	for _, r := range m.rows {
		b = append(b, record(r.payload())...)
	}
	return b
}

// floor tells the floor's number, 0 of none, and what it keeps.
func (m model) floor() (uint64, []uint64) {
	if len(m.rows) > 0 && m.rows[0].kind == 3 {
		return m.rows[0].nums[0], m.rows[0].nums[2:]
	}
	return 0, nil
}

// dead tells whether a ledger is dead.
func (m model) dead(ledger uint64) bool {
	number, keeps := m.floor()
	return ledger < number && !slices.Contains(keeps, ledger)
}

// entries tells the first row of each key, by their keys.
func (m model) entries() []row {
	var l []row
	for _, r := range m.rows {
		there := func(x row) bool { return slices.Equal(x.nums[:2], r.nums[:2]) }
		if r.kind == 1 && !slices.ContainsFunc(l, there) {
			l = append(l, r)
		}
	}
	slices.SortFunc(l, func(a, b row) int { return slices.Compare(a.nums, b.nums) })
	return l
}

// keyOf tells the key of an entry's row.
func keyOf(r row) api.Key { return api.Key{Ledger: r.nums[0], N: r.nums[1]} }

// keys tells the keys of all entries, in order.
func (m model) keys() []api.Key {
	var l []api.Key
	for _, r := range m.entries() {
		l = append(l, keyOf(r))
	}
	return l
}

// get tells the bytes of a key.
func (m model) get(k api.Key) (string, bool) {
	for _, r := range m.rows {
		if r.kind == 1 && keyOf(r) == k {
			return r.text, true
		}
	}
	return "", false
}

// fence tells a ledger's fence.
func (m model) fence(ledger uint64) uint64 {
	var epoch uint64
	for _, r := range m.rows {
		if r.kind == 2 && r.nums[0] == ledger {
			epoch = max(epoch, r.nums[1])
		}
	}
	return epoch
}

// lac tells a ledger's lac.
func (m model) lac(ledger uint64) uint64 {
	var lac uint64
	for _, r := range m.entries() {
		if r.nums[0] == ledger {
			lac = max(lac, r.nums[2])
		}
	}
	return lac
}

// ledgers tells all ledgers of which there is an entry or a fence, rising.
func (m model) ledgers() []uint64 {
	var l []uint64
	for _, r := range m.rows {
		if r.kind != 3 {
			l = append(l, r.nums[0])
		}
	}
	slices.Sort(l)
	return slices.Compact(l)
}

// ask is a call.
type ask struct {
	what          string
	key           api.Key
	lac           uint64
	body          string
	ledger, epoch uint64
	below         uint64
	kept          []uint64
}

// add asks for an entry to be there.
func add(ledger, n, lac uint64, body string) ask {
	return ask{what: "add", key: api.Key{Ledger: ledger, N: n}, lac: lac, body: body}
}

// fence asks for a fence.
func fence(ledger, epoch uint64) ask { return ask{what: "fence", ledger: ledger, epoch: epoch} }

// free asks for ledgers to go.
func free(below uint64, kept ...uint64) ask { return ask{what: "free", below: below, kept: kept} }

// flush asks for all to last.
func flush() ask { return ask{what: "flush"} }

// String tells a call.
func (a ask) String() string {
	switch a.what {
	case "add":
		return fmt.Sprintf("add %v %d %.20q (%d)", a.key, a.lac, a.body, len(a.body))
	case "fence":
		return fmt.Sprint("fence ", a.ledger, a.epoch)
	case "free":
		return fmt.Sprint("free ", a.below, a.kept)
	}
	return a.what
}

// of has it done by a store.
func (a ask) of(s *store.Store) api.Errno {
	switch a.what {
	case "add":
		return s.Add(a.key, a.lac, []byte(a.body))
	case "fence":
		return s.Fence(a.ledger, a.epoch)
	case "free":
		return s.Free(a.below, a.kept...)
	}
	return s.Flush()
}

// answer tells what a call should answer on a disk as it is, and the log then.
func (m model) answer(d *disk.Disk, a ask) (model, api.Errno) {
	if d.Down() {
		return m, 6
	}
	switch a.what {
	case "add":
		return m.answerAdd(d, a)
	case "fence":
		return m.answerFence(d, a)
	case "free":
		return m.answerFree(d, a)
	}
	return m, 0
}

// put tells what is answered where a row is to be put behind a log that may have so many bytes.
func (m model) put(d *disk.Disk, r row, most int) (model, api.Errno) {
	n := len(record(r.payload()))
	if len(m.bytes())+n > most || d.Bytes()+n > d.Capacity() {
		return m, 3
	}
	return m.with(r), 0
}

// answerAdd tells what Add should answer.
func (m model) answerAdd(d *disk.Disk, a ask) (model, api.Errno) {
	r := entryRow(a.key, a.lac, a.body)
	short := entryRow(a.key, a.lac, "")
	if !short.may(false) {
		return m, 1
	}
	if len(a.body) > 200 {
		return m, 7
	}
	if m.dead(a.key.Ledger) {
		return m, 8
	}
	if b, ok := m.get(a.key); ok && b == a.body {
		return m, 0
	} else if ok {
		return m, 5
	}
	return m.put(d, r, d.Capacity()/3)
}

// answerFence tells what Fence should answer.
func (m model) answerFence(d *disk.Disk, a ask) (model, api.Errno) {
	r := fenceRow(a.ledger, a.epoch)
	if !r.may(false) {
		return m, 1
	}
	if m.dead(a.ledger) {
		return m, 8
	}
	if m.fence(a.ledger) >= a.epoch {
		return m, 0
	}
	return m.put(d, r, d.Capacity()/2)
}

// floorBy tells the floor that would be by a Free.
func (m model) floorBy(a ask) row {
	number, keeps := m.floor()
	var l []uint64
	if a.below < number {
		for _, x := range keeps {
			if x >= a.below || slices.Contains(a.kept, x) {
				l = append(l, x)
			}
		}
		return floorRow(number, l...)
	}
	number = min(a.below, top+1)
	for _, x := range a.kept {
		if x >= 1 && x < number && !m.dead(x) && !slices.Contains(l, x) {
			l = append(l, x)
		}
	}
	slices.Sort(l)
	return floorRow(number, l...)
}

// answerFree tells what Free should answer.
func (m model) answerFree(d *disk.Disk, a ask) (model, api.Errno) {
	if len(a.kept) > 64 {
		return m, 7
	}
	next := model{[]row{m.floorBy(a)}}
	if !slices.ContainsFunc(m.ledgers(), next.dead) {
		return m, 0
	}
	for _, l := range m.ledgers() {
		if !next.dead(l) && m.fence(l) > 0 {
			next = next.with(fenceRow(l, m.fence(l)))
		}
	}
	for _, r := range m.entries() {
		if !next.dead(r.nums[0]) {
			next = next.with(r)
		}
	}
	if d.Bytes()-d.Size("log.new")+len(next.bytes()) > d.Capacity() {
		return m, 3
	}
	return next, 0
}

// roomy tells a disk of that capacity.
func roomy(t *testing.T, capacity int) *disk.Disk {
	t.Helper()
	d, e := disk.New(capacity)
	if e != api.OK {
		t.Fatal(e)
	}
	return d
}

// with tells a disk whose log has those bytes, and lasts.
func with(t *testing.T, capacity int, log []byte) *disk.Disk {
	t.Helper()
	d := roomy(t, capacity)
	if d.Put("log", log) != api.OK || d.Sync() != api.OK {
		t.Fatal(len(log))
	}
	return d
}

// opened tells a store on a disk.
func opened(t *testing.T, d *disk.Disk) *store.Store {
	t.Helper()
	s, e := store.Open(d)
	if e != api.OK || s == nil {
		t.Fatalf("Open: %v, %d", s, e)
	}
	return s
}

// crashed has a disk crash, and begin anew.
func crashed(t *testing.T, d *disk.Disk, keep, torn int) *disk.Disk {
	t.Helper()
	if e, f := d.Crash(keep, torn), d.Start(); e != api.OK || f != api.OK {
		t.Fatal(e, f)
	}
	return d
}

// asked tells ledgers that a model may have something of, and others.
func (m model) asked() []uint64 {
	number, keeps := m.floor()
	l := slices.Concat(m.ledgers(), keeps, []uint64{1, 2, 3, 9, number, number - 1, number + 1, top, top + 1, 1<<64 - 1})
	slices.Sort(l)
	return slices.Compact(l)
}

// is looks whether a store tells what its model's log has.
func is(t *testing.T, name string, s *store.Store, d *disk.Disk, m model) {
	t.Helper()
	if keys := s.Keys(); !slices.Equal(keys, m.keys()) {
		t.Fatalf("%s: the keys %v, not %v", name, keys, m.keys())
	}
	for _, l := range m.asked() {
		if s.Fenced(l) != m.fence(l) || s.Lac(l) != m.lac(l) || s.Dead(l) != m.dead(l) {
			t.Fatalf("%s: ledger %d: %d, %d, %v, not %d, %d, %v", name, l, s.Fenced(l), s.Lac(l), s.Dead(l), m.fence(l), m.lac(l), m.dead(l))
		}
	}
	for _, k := range append(m.keys(), api.Key{}, api.Key{Ledger: 1, N: 1}, api.Key{Ledger: 2, N: 2}, api.Key{Ledger: 9, N: 99}, api.Key{Ledger: top + 1, N: 1}) {
		want, ok := m.get(k)
		if b, is := s.Get(k); is != ok || string(b) != want {
			t.Fatalf("%s: Get(%v): %q, %v, not %q, %v", name, k, b, is, want, ok)
		}
	}
	b, _ := d.Read("log")
	if !slices.Equal(b, m.bytes()) {
		t.Fatalf("%s: the log: %x, not %x", name, b, m.bytes())
	}
	if s.Size() != len(b) || s.Room() != max(0, d.Capacity()/3-len(b)) {
		t.Fatalf("%s: %d bytes, room for %d; the log has %d of %d", name, s.Size(), s.Room(), len(b), d.Capacity())
	}
}

// does has a call done, and looks whether its answer, the store and the disk are as they should be then; it tells the model's log.
func does(t *testing.T, name string, s *store.Store, d *disk.Disk, m model, a ask) model {
	t.Helper()
	was := d.Copy()
	next, want := m.answer(d, a)
	if e := a.of(s); e != want {
		t.Fatalf("%s, %v: %d, not %d", name, a, e, want)
	}
	is(t, fmt.Sprintf("%s, %v", name, a), s, d, next)
	waits, names := was.Waits(), was.Names()
	switch {
	case a.what == "flush":
		waits = 0
	case a.what == "free" && !slices.Equal(next.bytes(), m.bytes()):
		names = slices.DeleteFunc(names, func(s string) bool { return s == "log.new" })
		waits += 2
	case len(next.rows) != len(m.rows):
		waits++
	}
	if was.Size("log") == 0 && len(next.rows) > 0 && !slices.Contains(names, "log") {
		names = append(names, "log")
		slices.Sort(names)
	}
	if d.Waits() != waits || !slices.Equal(d.Names(), names) || d.Down() != was.Down() || d.Serial() != was.Serial() {
		t.Fatalf("%s, %v: %d wait, not %d, of %q", name, a, d.Waits(), waits, d.Names())
	}
	for _, f := range d.Names() {
		x, _ := d.Read(f)
		if y, _ := was.Read(f); f != "log" && !slices.Equal(x, y) {
			t.Fatalf("%s, %v: the file %s: %x, not %x", name, a, f, x, y)
		}
	}
	return next
}

// Calls and logs, drawn from a row of chance that is the same at each run.

// one draws one of a row.
func one[T any](r *rand.Rand, l ...T) T { return l[r.IntN(len(l))] }

// drawText draws a text.
func drawText(r *rand.Rand, most int) string {
	return string(slices.Repeat([]byte{byte('a' + r.IntN(3))}, r.IntN(most+1)))
}

// drawKept draws ledgers to be kept.
func drawKept(r *rand.Rand, ledgers uint64) []uint64 {
	var l []uint64
	for range r.IntN(4) {
		l = append(l, one(r, r.Uint64N(ledgers+2), r.Uint64N(ledgers+2), r.Uint64N(ledgers+2), top, top+1))
	}
	return l
}

// drawAsk draws a call, of few ledgers, so that the same ones come again.
func drawAsk(r *rand.Rand, ledgers uint64) ask {
	switch x := r.IntN(20); {
	case x < 9:
		return add(1+r.Uint64N(ledgers), 1+r.Uint64N(4), r.Uint64N(5), drawText(r, 4))
	case x < 15:
		return fence(1+r.Uint64N(ledgers), 1+r.Uint64N(5))
	case x < 18:
		return free(r.Uint64N(ledgers+3), drawKept(r, ledgers)...)
	}
	return flush()
}

// strange draws a call that is refused for what it is asked with, or is about an edge.
func strange(r *rand.Rand) ask {
	edge := func() uint64 { return one[uint64](r, 0, 1, 2, top-1, top, top+1, 1<<63, 1<<64-1) }
	switch r.IntN(3) {
	case 0:
		return add(edge(), edge(), edge(), string(slices.Repeat([]byte{'x'}, one(r, 0, 1, 199, 200, 201, 300))))
	case 1:
		return fence(edge(), edge())
	}
	return free(edge(), slices.Repeat([]uint64{edge(), edge()}, one(r, 0, 1, 31, 32, 33, 40))...)
}

// drawRows draws a log as it may be, though no calls might come to it: with keys twice, lesser fences, and what is dead.
func drawRows(r *rand.Rand) model {
	var m model
	if r.IntN(2) == 0 {
		var keeps []uint64
		number := 1 + r.Uint64N(6)
		for l := uint64(1); l < number; l++ {
			if r.IntN(3) == 0 {
				keeps = append(keeps, l)
			}
		}
		m = m.with(floorRow(number, keeps...))
	}
	for range r.IntN(9) {
		if r.IntN(2) == 0 {
			m = m.with(fenceRow(1+r.Uint64N(5), 1+r.Uint64N(5)))
			continue
		}
		m = m.with(entryRow(api.Key{Ledger: 1 + r.Uint64N(5), N: 1 + r.Uint64N(3)}, r.Uint64N(5), drawText(r, 3)))
	}
	return m
}
