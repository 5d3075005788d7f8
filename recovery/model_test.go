package recovery_test

import (
	"bytes"
	"fmt"
	"math/big"
	"math/rand/v2"
	"reflect"
	"slices"
	"testing"

	"scrivener/api"
	"scrivener/plan"
	"scrivener/recovery"
	"scrivener/stripe"
)

// top is the greatest number that ids, epochs and disks may have.
const top = 1<<62 - 1

// The model: a recovery as the chapter's words say it, not by way of the package.

// told is what a call answers.
type told struct {
	r    api.Recovery
	reqs []api.Req
	e    api.Errno
}

// model is a recovery at a tick, and what it has asked in this call.
type model struct {
	api.Recovery
	now  uint64
	reqs []api.Req
}

// at tells the place of a node with a disk of that serial.
func at(node int, serial uint64) api.Place { return api.Place{Node: node, Serial: serial} }

// firsts tells the places of those nodes, each with its first disk.
func firsts(nodes ...int) []api.Place {
	var l []api.Place
	for _, n := range nodes {
		l = append(l, at(n, 1))
	}
	return l
}

// frag tells a fragment.
func frag(first uint64, bookies ...api.Place) api.Frag {
	return api.Frag{First: first, Bookies: bookies}
}

// lastOf tells the last fragment of a ledger.
func lastOf(l api.Ledger) api.Frag {
	if len(l.Frags) == 0 {
		return api.Frag{}
	}
	return l.Frags[len(l.Frags)-1]
}

// less tells those of a row that are not among others.
func less(row, others []api.Place) []api.Place {
	var l []api.Place
	for _, p := range row {
		if !slices.Contains(others, p) {
			l = append(l, p)
		}
	}
	return l
}

// both tells those of a row that are among others, too.
func both(row, others []api.Place) []api.Place { return less(row, less(row, others)) }

// readSet tells the places on which a recovery's entry stands by the plan.
func readSet(r api.Recovery) []api.Place { return stripe.Set(r.Ledger.Frags, r.Ledger.W, r.N) }

// writeSet tells the places on which a recovery has its entry stand.
func writeSet(r api.Recovery) []api.Place { return stripe.Set(r.Frags, r.Ledger.W, r.N) }

// behind tells whether so many ticks have gone by since then.
func behind(now, then uint64, ticks int64) bool {
	due := new(big.Int).Add(new(big.Int).SetUint64(then), big.NewInt(ticks))
	return due.Cmp(new(big.Int).SetUint64(now)) <= 0
}

// asks asks what the phase asks of all of whom it asks that.
func (m *model) asks() {
	m.Since = m.now
	switch m.Phase {
	case 1:
		for _, p := range less(lastOf(m.Ledger).Bookies, m.Heard) {
			m.reqs = append(m.reqs, api.Req{To: p, Kind: 2, Ledger: m.Ledger.Id, Epoch: m.Epoch})
		}
	case 2:
		for _, p := range less(both(readSet(m.Recovery), m.Heard), m.None) {
			m.gets(p)
		}
	case 3:
		for _, p := range less(writeSet(m.Recovery), m.Has) {
			m.reqs = append(m.reqs, api.Req{To: p, Kind: 1, Ledger: m.Ledger.Id, N: m.N, Epoch: m.Epoch, Sure: m.Sure, Body: m.Body})
		}
	}
}

// gets asks a place for the entry.
func (m *model) gets(p api.Place) {
	m.reqs = append(m.reqs, api.Req{To: p, Kind: 3, Ledger: m.Ledger.Id, N: m.N, Epoch: m.Epoch})
}

// goesOn goes on to the entry whose number is n and some more, which may be beyond a number: that is none up to 8 either.
func (m *model) goesOn(n, more uint64) {
	m.N = n + more
	m.None, m.Has, m.Body, m.Bad = nil, nil, nil, nil
	m.Phase, m.Born = 2, m.now
	if n > 8 || n+more > 8 {
		m.Phase = 4
		return
	}
	m.asks()
}

// looksDone goes on, if enough places have the entry.
func (m *model) looksDone() {
	if stripe.Acked(writeSet(m.Recovery), m.Ledger.A, m.Has...) {
		m.goesOn(m.N, 1)
	}
}

// hasIt has a place be among those who have the entry.
func (m *model) hasIt(p api.Place) {
	if !slices.Contains(m.Has, p) {
		m.Has = append(m.Has, p)
		m.looksDone()
	}
}

// worse has some more places be bad, each once.
func (m *model) worse(more ...api.Place) {
	for _, p := range more {
		if !slices.Contains(m.Bad, p) {
			m.Bad = append(m.Bad, p)
		}
	}
}

// created tells what New should answer.
func created(l api.Ledger, epoch, now uint64) told {
	if !plan.MayLedger(l) || l.Closed == 1 || epoch == 0 || epoch > top {
		return told{e: 1}
	}
	m := model{Recovery: api.Recovery{Ledger: l, Epoch: epoch, Phase: 1, Frags: l.Frags, Born: now}, now: now}
	m.asks()
	return told{r: m.Recovery, reqs: m.reqs}
}

// taken tells what Take should answer.
func taken(r api.Recovery, now uint64, x api.Resp) told {
	m := model{Recovery: twin(r), now: now}
	if x.Ledger != r.Ledger.Id || x.Epoch != r.Epoch || r.Phase == 4 {
		return told{r: r}
	}
	switch {
	case x.Kind == 2:
		m.hearsFence(x)
	case x.N != r.N:
	case x.Kind == 3 && r.Phase == 2:
		m.hearsGet(x)
	case x.Kind == 3 && r.Phase == 3:
		if x.Code == 0 && bytes.Equal(x.Body, r.Body) {
			m.hasIt(x.From)
		}
	case x.Kind == 1 && r.Phase == 3:
		m.hearsAdd(x)
	}
	return told{r: m.Recovery, reqs: m.reqs}
}

// hearsFence takes an answer to a fence.
func (m *model) hearsFence(x api.Resp) {
	last := lastOf(m.Ledger)
	if x.Code != 0 || !slices.Contains(last.Bookies, x.From) || slices.Contains(m.Heard, x.From) {
		return
	}
	m.Heard = append(m.Heard, x.From)
	if x.Sure > m.Sure {
		m.Sure = x.Sure
	}
	if m.Sure > 8 {
		m.Sure = 8
	}
	if m.Phase == 1 && stripe.Covered(last, m.Ledger.W, m.Ledger.A, m.Heard...) {
		if last.First > m.Sure+1 {
			m.goesOn(last.First, 0)
		} else {
			m.goesOn(m.Sure, 1)
		}
	} else if m.Phase == 2 && slices.Contains(readSet(m.Recovery), x.From) {
		m.gets(x.From)
	}
}

// hearsGet takes an answer to what was asked in Phase 2.
func (m *model) hearsGet(x api.Resp) {
	set := readSet(m.Recovery)
	if !slices.Contains(set, x.From) {
		return
	}
	switch {
	case x.Code == 0:
		m.Has, m.Body = []api.Place{x.From}, x.Body
		m.Phase, m.Born = 3, m.now
		m.asks()
		m.looksDone()
	case x.Code == 3 && slices.Contains(m.Heard, x.From) && !slices.Contains(m.None, x.From):
		m.None = append(m.None, x.From)
		if stripe.Missing(set, m.Ledger.W, m.Ledger.A, m.None...) {
			m.Phase, m.Born = 4, m.now
		}
	}
}

// hearsAdd takes an answer to what was asked in Phase 3.
func (m *model) hearsAdd(x api.Resp) {
	if x.Code == 0 {
		m.hasIt(x.From)
	}
	for _, p := range writeSet(m.Recovery) {
		if p == x.From && (x.Code == 2 || x.Code == 4) || x.Code == 4 && p.Node == x.From.Node && p.Serial != x.From.Serial {
			m.worse(p)
		}
	}
}

// ticked tells what Tick should answer.
func ticked(r api.Recovery, now uint64, known []api.Place) told {
	m := model{Recovery: twin(r), now: now}
	if r.Phase == 4 {
		return told{r: r}
	}
	if r.Phase == 3 && behind(now, r.Born, 9) {
		m.worse(less(writeSet(r), r.Has)...)
		m.Born = now
	}
	renewed := false
	if r.Phase == 3 && len(m.Bad) > 0 {
		renewed = m.renews(known)
	}
	if !renewed && behind(now, r.Since, 3) {
		m.asks()
	}
	return told{r: m.Recovery, reqs: m.reqs}
}

// renews has another fragment be that of the entry, if there is one.
func (m *model) renews(known []api.Place) bool {
	old, _ := stripe.Frag(m.Frags, m.N)
	fresh, ok := stripe.Renew(old, m.Ledger.W, len(old.Bookies), m.Bad, known)
	m.Bad = nil
	var row []api.Frag
	for _, f := range m.Frags {
		if f.First < m.N {
			row = append(row, f)
		}
	}
	if !ok || len(row) > 5 {
		return false
	}
	fresh.First = m.N
	m.Frags, m.Born = append(row, fresh), m.now
	m.asks()
	m.looksDone()
	return true
}

// The calls, held against the model.

// holds looks whether a call answered what it should.
func holds(t *testing.T, got, want told, call ...any) {
	t.Helper()
	if !alike(got, want) {
		t.Fatalf("%+v:\n%+v, not\n%+v", call, got, want)
	}
}

// begins has New called, and looks at what it answers.
func begins(t *testing.T, l api.Ledger, epoch, now uint64) told {
	t.Helper()
	var x told
	x.r, x.reqs, x.e = recovery.New(l, epoch, now)
	holds(t, x, created(l, epoch, now), "New", l, epoch, now)
	return x
}

// takes has Take called, and looks at what it answers.
func takes(t *testing.T, r api.Recovery, now uint64, a api.Resp) told {
	t.Helper()
	var x told
	x.r, x.reqs = recovery.Take(r, now, a)
	holds(t, x, taken(r, now, a), "Take", r, now, a)
	return x
}

// ticks has Tick called, and looks at what it answers.
func ticks(t *testing.T, r api.Recovery, now uint64, known ...api.Place) told {
	t.Helper()
	var x told
	x.r, x.reqs = recovery.Tick(r, now, known...)
	holds(t, x, ticked(r, now, known), "Tick", r, now, known)
	return x
}

// ends has Ended called, and looks at what it answers: which entry is the last one, if the end is found.
func ends(t *testing.T, r api.Recovery) (uint64, bool) {
	t.Helper()
	last, frags, ok := recovery.Ended(r)
	want := api.Recovery{Frags: r.Frags, N: r.N - 1}
	if r.Phase != 4 {
		want = api.Recovery{}
	}
	if ok != (r.Phase == 4) || !alike(api.Recovery{Frags: frags, N: last}, want) {
		t.Fatalf("%+v ends with %d, %+v, %v", r, last, frags, ok)
	}
	return last, ok
}

// Values as tests hold them against each other, and have them in memory of their own.

// alike tells whether two values are the same; a list that is none is the same as an empty one.
func alike(a, b any) bool { return fmt.Sprintf("%+v", a) == fmt.Sprintf("%+v", b) }

// twin tells the same value in memory of its own, not by way of the package.
func twin[T any](x T) T { return roomy(x, 0) }

// roomy tells the same value in memory of its own, with room for so many more behind each list's end: what stands there is not zero.
func roomy[T any](x T, room int) T { return deep(reflect.ValueOf(x), room).Interface().(T) }

// deep does what roomy does.
func deep(v reflect.Value, room int) reflect.Value {
	c := reflect.New(v.Type()).Elem()
	c.Set(v)
	switch v.Kind() {
	case reflect.Struct:
		for i := range v.NumField() {
			c.Field(i).Set(deep(v.Field(i), room))
		}
	case reflect.Slice:
		size := v.Len()
		c.Set(reflect.MakeSlice(v.Type(), size+room, size+room))
		for i := range size + room {
			if i < size {
				c.Index(i).Set(deep(v.Index(i), room))
			} else {
				walk(c.Index(i), func(x reflect.Value) { set(x, 0x5eed) })
			}
		}
		c.Set(c.Slice(0, size))
	}
	return c
}

// walk goes over the numbers of a value; it tells its lists.
func walk(v reflect.Value, visit func(reflect.Value)) []reflect.Value {
	var lists []reflect.Value
	switch v.Kind() {
	case reflect.Struct:
		for i := range v.NumField() {
			lists = append(lists, walk(v.Field(i), visit)...)
		}
	case reflect.Slice:
		lists = append(lists, v)
		for i := range v.Len() {
			lists = append(lists, walk(v.Index(i), visit)...)
		}
	default:
		visit(v)
	}
	return lists
}

// set has a number be x, as far as it has room for it.
func set(v reflect.Value, x uint64) {
	if v.CanInt() {
		v.SetInt(int64(x))
	} else {
		v.SetUint(x)
	}
}

// Recoveries, and what they are told, drawn from a row of chance that is the same at each run.

// one draws one of a row.
func one[T any](d *rand.Rand, l ...T) T { return l[d.IntN(len(l))] }

// some draws some of a row, in any order.
func some[T any](d *rand.Rand, l []T) []T {
	var row []T
	for _, i := range d.Perm(len(l))[:d.IntN(len(l)+1)] {
		row = append(row, l[i])
	}
	return row
}

// drawRow draws from w to 5 places on unlike nodes, with disks of serials 1 and 2.
func drawRow(d *rand.Rand, w int) []api.Place {
	var row []api.Place
	for _, i := range d.Perm(6)[:w+d.IntN(6-w)] {
		row = append(row, at(i+5, 1+d.Uint64N(2)))
	}
	return row
}

// drawLedger draws an open ledger that may be.
func drawLedger(d *rand.Rand) api.Ledger {
	l := api.Ledger{Id: 1 + d.Uint64N(3), W: 1 + d.IntN(4)}
	l.A = 1 + d.IntN(l.W)
	for first := uint64(1); first <= 9 && len(l.Frags) < 6; first += 1 + d.Uint64N(4) {
		l.Frags = append(l.Frags, frag(first, drawRow(d, l.W)...))
		if d.IntN(3) == 0 {
			break
		}
	}
	return l
}

// drawRecovery draws a recovery as one may come to be.
func drawRecovery(d *rand.Rand) api.Recovery {
	r := api.Recovery{Ledger: drawLedger(d), Epoch: 1 + d.Uint64N(3), Phase: one(d, 1, 1, 1, 2, 2, 2, 3, 3, 3, 4), Born: d.Uint64N(30)}
	last := lastOf(r.Ledger)
	r.Frags, r.Heard, r.Since = twin(r.Ledger.Frags), some(d, last.Bookies), r.Born+d.Uint64N(12)
	if len(r.Heard) > 0 {
		r.Sure = one(d, 0, d.Uint64N(9))
	}
	if r.Phase == 1 {
		return r
	}
	r.N = max(r.Sure+1, last.First) + d.Uint64N(3)
	if r.Phase < 4 {
		r.N = min(r.N, 8)
	}
	if first := last.First + d.Uint64N(4); first <= r.N && d.IntN(2) == 0 {
		r.Frags = append(slices.DeleteFunc(r.Frags, func(f api.Frag) bool { return f.First == first }), frag(first, drawRow(d, r.Ledger.W)...))
	}
	if r.Phase == 2 || d.IntN(2) == 0 {
		r.None = some(d, both(readSet(r), r.Heard))
	}
	if r.Phase == 3 {
		r.Has, r.Body = some(d, one(d, writeSet(r), readSet(r))), bytes.Repeat([]byte{byte(d.IntN(9))}, d.IntN(4))
		if d.IntN(2) == 0 {
			r.Bad = some(d, writeSet(r))
		}
	}
	return r
}

// members tells all places of whom a recovery knows, those that it asks in its phase more often.
func members(r api.Recovery) []api.Place {
	all := slices.Concat(lastOf(r.Ledger).Bookies, readSet(r), writeSet(r), writeSet(r))
	for _, f := range r.Frags {
		all = append(all, f.Bookies...)
	}
	return all
}

// drawResp draws what a bookie answers a recovery, more often than not to what it asks.
func drawResp(d *rand.Rand, r api.Recovery) api.Resp {
	x := api.Resp{Kind: 1 + d.IntN(3), Ledger: r.Ledger.Id, Epoch: r.Epoch, N: r.N, Code: one(d, 0, 0, 0, 0, 1, 2, 3, 3, 4), Sure: d.Uint64N(10)}
	if fit := []int{0, 2, 3, 1, 2}; d.IntN(4) > 0 && r.Phase > 0 && r.Phase < 5 {
		x.Kind = fit[r.Phase]
	}
	if r.Phase == 2 && d.IntN(3) == 0 {
		x.Code = api.RespNone
	}
	if d.IntN(8) == 0 {
		x.N += one(d, 1, 2, ^uint64(0))
	}
	x.From = at(5+d.IntN(6), 1+d.Uint64N(3))
	if all := members(r); d.IntN(4) > 0 && len(all) > 0 {
		x.From = one(d, all...)
	}
	if x.Body = slices.Clone(r.Body); d.IntN(4) == 0 {
		x.Body = append(x.Body, 7)
	}
	return x
}

// edges tells numbers at which something may change.
func edges() []uint64 {
	l := []uint64{1<<32 + 1, 1 << 63, 1<<63 - 1, top - 1, top, top + 1}
	for i := range uint64(12) {
		l = append(l, i, -i)
	}
	return l
}

// altered tells a value, one of whose numbers, or lists, was altered.
func altered[T any](d *rand.Rand, x T) T {
	x = twin(x)
	var numbers []reflect.Value
	lists := walk(reflect.ValueOf(&x).Elem(), func(n reflect.Value) { numbers = append(numbers, n) })
	if d.IntN(4) > 0 || len(lists) == 0 {
		set(one(d, numbers...), one(d, edges()...))
		return x
	}
	l := one(d, lists...)
	switch n := l.Len(); {
	case n == 0:
		l.Set(reflect.MakeSlice(l.Type(), 1, 1))
	case d.IntN(2) == 0:
		i := d.IntN(n)
		l.Set(reflect.AppendSlice(deep(l.Slice(0, i), 0), l.Slice(i+1, n)))
	default:
		l.Set(reflect.Append(deep(l, 0), deep(l.Index(d.IntN(n)), 0)))
	}
	return x
}

// drawAny draws a recovery of whose fields some may be any.
func drawAny(d *rand.Rand) api.Recovery {
	r := drawRecovery(d)
	for range one(d, 0, 0, 1, 1, 2, 5) {
		r = altered(d, r)
	}
	return r
}
