package writer_test

import (
	"bytes"
	"fmt"
	"math/big"
	"math/rand/v2"
	"reflect"
	"slices"
	"testing"

	"scrivener/api"
	"scrivener/plan"
	"scrivener/stripe"
	"scrivener/writer"
)

// top is the greatest number that ids, epochs and disks may have.
const top = 1<<62 - 1

// The model: a writer as the chapter's words say it, not by way of the package.

// told is what a call answers.
type told struct {
	w    api.Writer
	reqs []api.Req
	frag api.Frag
	ok   bool
	e    api.Errno
}

// at tells the place of a node with a disk of that serial.
func at(node int, serial uint64) api.Place { return api.Place{Node: node, Serial: serial} }

// firsts tells the places of those nodes, each with its first disk.
func firsts(nodes ...int) []api.Place {
	var l []api.Place
	for _, n := range nodes {
		l = append(l, at(n, 1))
	}
	return l
}

// frag tells a fragment.
func frag(first uint64, bookies ...api.Place) api.Frag {
	return api.Frag{First: first, Bookies: bookies}
}

// setOf tells the write set of an entry.
func setOf(l api.Ledger, n uint64) []api.Place {
	var row []api.Place
	first := uint64(0)
	for _, f := range l.Frags {
		if f.First <= n {
			row, first = f.Bookies, f.First
		}
	}
	if l.W < 1 || l.W > len(row) {
		return nil
	}
	from := int((n - first) % uint64(len(row)))
	return slices.Concat(row[from:], row[:from])[:l.W]
}

// isGood tells whether A unlike places of an entry's write set have it.
func isGood(l api.Ledger, x api.Waiting) bool {
	var have []api.Place
	for _, p := range setOf(l, x.N) {
		if slices.Contains(x.From, p) && !slices.Contains(have, p) {
			have = append(have, p)
		}
	}
	return l.A > 0 && len(have) >= l.A
}

// lacking tells those of an entry's write set that have it not.
func lacking(l api.Ledger, x api.Waiting) []api.Place {
	var lack []api.Place
	for _, p := range setOf(l, x.N) {
		if !slices.Contains(x.From, p) {
			lack = append(lack, p)
		}
	}
	return lack
}

// surer tells a writer that is sure of more.
func surer(w api.Writer) api.Writer {
	for len(w.Waits) > 0 {
		x := w.Waits[0]
		if !isGood(w.Ledger, x) || w.Change.First > 0 && x.N >= w.Change.First {
			break
		}
		w.Sure, w.Waits = x.N, w.Waits[1:]
	}
	return w
}

// sent sends the entry that stands at a number of those that wait: it tells what is asked.
func sent(w api.Writer, i int, now uint64) []api.Req {
	var l []api.Req
	x := &w.Waits[i]
	for _, p := range lacking(w.Ledger, *x) {
		l = append(l, api.Req{To: p, Kind: 1, Ledger: w.Ledger.Id, N: x.N, Epoch: w.Epoch, Sure: w.Sure, Body: x.Body})
	}
	x.Since = now
	return l
}

// lastOf tells the places of the last fragment.
func lastOf(l api.Ledger) []api.Place {
	if len(l.Frags) == 0 {
		return nil
	}
	return l.Frags[len(l.Frags)-1].Bookies
}

// worse tells bad places with some more, each once, as far as they are of the last fragment.
func worse(w api.Writer, more ...api.Place) []api.Place {
	bad := w.Bad
	for _, p := range more {
		if slices.Contains(lastOf(w.Ledger), p) && !slices.Contains(bad, p) {
			bad = append(bad, p)
		}
	}
	return bad
}

// behind tells whether so many ticks have gone by since then.
func behind(now, then uint64, ticks int64) bool {
	due := new(big.Int).Add(new(big.Int).SetUint64(then), big.NewInt(ticks))
	return due.Cmp(new(big.Int).SetUint64(now)) <= 0
}

// created tells what New should answer.
func created(l api.Ledger, epoch uint64) told {
	if !plan.MayLedger(l) || l.Closed == 1 || epoch == 0 || epoch > top {
		return told{e: 1}
	}
	return told{w: api.Writer{Ledger: l, Epoch: epoch, Next: 1}}
}

// added tells what Send should answer.
func added(w api.Writer, now uint64, body []byte) told {
	switch {
	case w.Fenced == 1:
		return told{w: w, e: 5}
	case len(body) > 2048:
		return told{w: w, e: 7}
	case w.Next > 8:
		return told{w: w, e: 3}
	}
	w = twin(w)
	w.Waits = append(w.Waits, api.Waiting{N: w.Next, Body: body, Born: now, Since: now})
	w.Next++
	reqs := sent(w, len(w.Waits)-1, now)
	return told{w: w, reqs: reqs}
}

// taken tells what Take should answer.
func taken(w api.Writer, r api.Resp) told {
	if r.Kind != 1 || r.Ledger != w.Ledger.Id || r.Epoch != w.Epoch {
		return told{w: w}
	}
	w = twin(w)
	member := false
	for _, f := range w.Ledger.Frags {
		member = member || slices.Contains(f.Bookies, r.From)
	}
	switch r.Code {
	case 0:
		i := slices.IndexFunc(w.Waits, func(x api.Waiting) bool { return x.N == r.N })
		if member && i >= 0 {
			if x := &w.Waits[i]; !slices.Contains(x.From, r.From) {
				x.From = append(x.From, r.From)
			}
			w = surer(w)
		}
	case 1:
		if member {
			w.Fenced = 1
		}
	case 2:
		w.Bad = worse(w, r.From)
	case 4:
		for _, p := range lastOf(w.Ledger) {
			if p == r.From || p.Node == r.From.Node && p.Serial != r.From.Serial {
				w.Bad = worse(w, p)
			}
		}
	}
	return told{w: w}
}

// ticked tells what Tick should answer.
func ticked(w api.Writer, now uint64) told {
	if w.Fenced == 1 {
		return told{w: w}
	}
	x := told{w: twin(w)}
	for i, y := range x.w.Waits {
		if behind(now, y.Born, 9) {
			x.w.Bad = worse(x.w, lacking(x.w.Ledger, y)...)
		}
		if behind(now, y.Since, 3) {
			x.reqs = append(x.reqs, sent(x.w, i, now)...)
		}
	}
	return x
}

// asked tells what Ask should answer.
func asked(w api.Writer, e int, known []api.Place) told {
	if w.Fenced == 1 || w.Change.First > 0 || len(w.Bad) == 0 {
		return told{w: w}
	}
	w = twin(w)
	var last api.Frag
	if n := len(w.Ledger.Frags); n > 0 {
		last = w.Ledger.Frags[n-1]
	}
	f, ok := stripe.Renew(last, w.Ledger.W, e, w.Bad, known)
	if !ok || len(w.Ledger.Frags) >= 6 && behind(w.Sure, last.First, 0) {
		w.Bad = nil
		return told{w: w}
	}
	f.First = w.Sure + 1
	w.Change = f
	return told{w: w, frag: f, ok: true}
}

// changed tells what Changed should answer.
func changed(w api.Writer, now uint64, ok bool) told {
	if w.Change.First == 0 {
		return told{w: w}
	}
	w = twin(w)
	if ok {
		for i := len(w.Ledger.Frags) - 1; i >= 0; i-- {
			if w.Ledger.Frags[i].First == w.Change.First {
				w.Ledger.Frags = w.Ledger.Frags[:i]
				break
			}
		}
		w.Ledger.Frags = append(w.Ledger.Frags, w.Change)
	}
	w.Change, w.Bad = api.Frag{}, nil
	for i := range w.Waits {
		w.Waits[i].Born = now
	}
	x := told{w: surer(w)}
	for i := range x.w.Waits {
		x.reqs = append(x.reqs, sent(x.w, i, now)...)
	}
	return x
}

// The calls, held against the model.

// holds looks whether a call answered what it should.
func holds(t *testing.T, got, want told, call ...any) {
	t.Helper()
	if !alike(got, want) {
		t.Fatalf("%+v:\n%+v, not\n%+v", call, got, want)
	}
}

// begins has New called, and looks at what it answers.
func begins(t *testing.T, l api.Ledger, epoch uint64) told {
	t.Helper()
	var x told
	x.w, x.e = writer.New(l, epoch)
	holds(t, x, created(l, epoch), "New", l, epoch)
	return x
}

// sends has Send called, and looks at what it answers.
func sends(t *testing.T, w api.Writer, now uint64, body []byte) told {
	t.Helper()
	var x told
	x.w, x.reqs, x.e = writer.Send(w, now, body)
	holds(t, x, added(w, now, body), "Send", w, now, len(body))
	return x
}

// takes has Take called, and looks at what it answers; now plays no part.
func takes(t *testing.T, w api.Writer, now uint64, r api.Resp) told {
	t.Helper()
	x := told{w: writer.Take(w, now, r)}
	holds(t, x, taken(w, r), "Take", w, now, r)
	return x
}

// ticks has Tick called, and looks at what it answers.
func ticks(t *testing.T, w api.Writer, now uint64) told {
	t.Helper()
	var x told
	x.w, x.reqs = writer.Tick(w, now)
	holds(t, x, ticked(w, now), "Tick", w, now)
	return x
}

// asks has Ask called, and looks at what it answers.
func asks(t *testing.T, w api.Writer, e int, known ...api.Place) told {
	t.Helper()
	var x told
	x.w, x.frag, x.ok = writer.Ask(w, e, known...)
	holds(t, x, asked(w, e, known), "Ask", w, e, known)
	return x
}

// changes has Changed called, and looks at what it answers.
func changes(t *testing.T, w api.Writer, now uint64, ok bool) told {
	t.Helper()
	var x told
	x.w, x.reqs = writer.Changed(w, now, ok)
	holds(t, x, changed(w, now, ok), "Changed", w, now, ok)
	return x
}

// Values as tests hold them against each other, and have them in memory of their own.

// alike tells whether two values are the same; a list that is none is the same as an empty one.
func alike(a, b any) bool { return fmt.Sprintf("%+v", a) == fmt.Sprintf("%+v", b) }

// twin tells the same value in memory of its own, not by way of the package.
func twin[T any](x T) T { return roomy(x, 0) }

// roomy tells the same value in memory of its own, with room for so many more behind each list's end: what stands there is not zero.
func roomy[T any](x T, room int) T { return deep(reflect.ValueOf(x), room).Interface().(T) }

// deep does what roomy does.
func deep(v reflect.Value, room int) reflect.Value {
	c := reflect.New(v.Type()).Elem()
	c.Set(v)
	switch v.Kind() {
	case reflect.Struct:
		for i := range v.NumField() {
			c.Field(i).Set(deep(v.Field(i), room))
		}
	case reflect.Slice:
		size := v.Len()
		c.Set(reflect.MakeSlice(v.Type(), size+room, size+room))
		for i := range size + room {
			if i < size {
				c.Index(i).Set(deep(v.Index(i), room))
			} else {
				walk(c.Index(i), func(x reflect.Value) { set(x, 0x5eed) })
			}
		}
		c.Set(c.Slice(0, size))
	}
	return c
}

// walk goes over the numbers of a value; it tells its lists.
func walk(v reflect.Value, visit func(reflect.Value)) []reflect.Value {
	var lists []reflect.Value
	switch v.Kind() {
	case reflect.Struct:
		for i := range v.NumField() {
			lists = append(lists, walk(v.Field(i), visit)...)
		}
	case reflect.Slice:
		lists = append(lists, v)
		for i := range v.Len() {
			lists = append(lists, walk(v.Index(i), visit)...)
		}
	default:
		visit(v)
	}
	return lists
}

// set has a number be x, as far as it has room for it.
func set(v reflect.Value, x uint64) {
	if v.CanInt() {
		v.SetInt(int64(x))
	} else {
		v.SetUint(x)
	}
}

// Writers, and what they are told, drawn from a row of chance that is the same at each run.

// one draws one of a row.
func one[T any](d *rand.Rand, l ...T) T { return l[d.IntN(len(l))] }

// some draws some of a row, in any order.
func some[T any](d *rand.Rand, l []T) []T {
	var row []T
	for _, i := range d.Perm(len(l))[:d.IntN(len(l)+1)] {
		row = append(row, l[i])
	}
	return row
}

// drawRow draws from w to 5 places on unlike nodes, with disks of serials 1 and 2.
func drawRow(d *rand.Rand, w int) []api.Place {
	var row []api.Place
	for _, i := range d.Perm(6)[:w+d.IntN(6-w)] {
		row = append(row, at(i+5, 1+d.Uint64N(2)))
	}
	return row
}

// drawLedger draws an open ledger that may be.
func drawLedger(d *rand.Rand) api.Ledger {
	l := api.Ledger{Id: 1 + d.Uint64N(3), W: 1 + d.IntN(4)}
	l.A = 1 + d.IntN(l.W)
	for first := uint64(1); first <= 9 && len(l.Frags) < 6; first += 1 + d.Uint64N(4) {
		l.Frags = append(l.Frags, frag(first, drawRow(d, l.W)...))
		if d.IntN(3) == 0 {
			break
		}
	}
	return l
}

// members tells all places of a ledger's fragments, those of the last one twice.
func members(l api.Ledger) []api.Place {
	all := slices.Clone(lastOf(l))
	for _, f := range l.Frags {
		all = append(all, f.Bookies...)
	}
	return all
}

// drawWriter draws a writer as one may come to be.
func drawWriter(d *rand.Rand) api.Writer {
	w := api.Writer{Ledger: drawLedger(d), Epoch: 1 + d.Uint64N(3), Sure: d.Uint64N(6)}
	w.Next = w.Sure + 1
	for range d.IntN(4) {
		x := api.Waiting{N: w.Next, Body: bytes.Repeat([]byte{byte(d.IntN(9))}, d.IntN(4)), Born: d.Uint64N(30)}
		x.Since = x.Born + d.Uint64N(12)
		x.From = some(d, one(d, setOf(w.Ledger, x.N), drawRow(d, 1), lastOf(w.Ledger)))
		w.Waits = append(w.Waits, x)
		w.Next++
	}
	if d.IntN(2) == 0 {
		w.Bad = some(d, lastOf(w.Ledger))
	}
	if d.IntN(3) == 0 {
		w.Change = frag(w.Sure+1+d.Uint64N(2), drawRow(d, w.Ledger.W)...)
		w.Change.First = one(d, w.Change.First, w.Change.First, w.Ledger.Frags[len(w.Ledger.Frags)-1].First, 1)
	}
	if d.IntN(10) == 0 {
		w.Fenced = 1
	}
	return w
}

// drawResp draws what a bookie answers a writer, more often than not to what it asks.
func drawResp(d *rand.Rand, w api.Writer) api.Resp {
	r := api.Resp{Kind: 1, Ledger: w.Ledger.Id, Epoch: w.Epoch, N: w.Sure + d.Uint64N(4), Code: one(d, 0, 0, 0, 0, 1, 2, 2, 3, 4, 4)}
	r.From = at(5+d.IntN(6), 1+d.Uint64N(3))
	if all := members(w.Ledger); d.IntN(4) > 0 && len(all) > 0 {
		r.From = one(d, all...)
	}
	return r
}

// edges tells numbers at which something may change.
func edges() []uint64 {
	l := []uint64{1<<32 + 1, 1 << 63, 1<<63 - 1, top - 1, top, top + 1}
	for i := range uint64(12) {
		l = append(l, i, -i)
	}
	return l
}

// altered tells a value, one of whose numbers, or lists, was altered.
func altered[T any](d *rand.Rand, x T) T {
	x = twin(x)
	var numbers []reflect.Value
	lists := walk(reflect.ValueOf(&x).Elem(), func(n reflect.Value) { numbers = append(numbers, n) })
	if d.IntN(4) > 0 || len(lists) == 0 {
		set(one(d, numbers...), one(d, edges()...))
		return x
	}
	l := one(d, lists...)
	switch n := l.Len(); {
	case n == 0:
		l.Set(reflect.MakeSlice(l.Type(), 1, 1))
	case d.IntN(2) == 0:
		i := d.IntN(n)
		l.Set(reflect.AppendSlice(deep(l.Slice(0, i), 0), l.Slice(i+1, n)))
	default:
		l.Set(reflect.Append(deep(l, 0), deep(l.Index(d.IntN(n)), 0)))
	}
	return x
}

// drawAny draws a writer of whose fields some may be any.
func drawAny(d *rand.Rand) api.Writer {
	w := drawWriter(d)
	for range one(d, 0, 0, 1, 1, 2, 5) {
		w = altered(d, w)
	}
	return w
}
