package reader_test

import (
	"bytes"
	"fmt"
	"math"
	"math/big"
	"math/rand/v2"
	"reflect"
	"slices"
	"testing"

	"scrivener/api"
	"scrivener/plan"
	"scrivener/reader"
	"scrivener/stripe"
)

// top is the greatest number that ids and disks may have.
const top = 1<<62 - 1

// The model: a fetch as the chapter's words say it, not by way of the package.

// told is what a call answers.
type told struct {
	f    api.Fetch
	reqs []api.Req
	e    api.Errno
}

// at tells the place of a node with a disk of that serial.
func at(node int, serial uint64) api.Place { return api.Place{Node: node, Serial: serial} }

// firsts tells the places of those nodes, each with its first disk.
func firsts(nodes ...int) []api.Place {
	var l []api.Place
	for _, n := range nodes {
		l = append(l, at(n, 1))
	}
	return l
}

// frag tells a fragment.
func frag(first uint64, bookies ...api.Place) api.Frag {
	return api.Frag{First: first, Bookies: bookies}
}

// behind tells whether so many ticks have gone by since then.
func behind(now, then uint64, ticks int64) bool {
	due := new(big.Int).Add(new(big.Int).SetUint64(then), big.NewInt(ticks))
	return due.Cmp(new(big.Int).SetUint64(now)) <= 0
}

// asks asks the place of a fetch, if there is one.
func asks(f api.Fetch, now uint64) told {
	for i, p := range f.Set {
		if i == f.At {
			f.Since = now
			return told{f: f, reqs: []api.Req{{To: p, Kind: 3, Ledger: f.Ledger, N: f.N, Epoch: f.Tag}}}
		}
	}
	return told{f: f}
}

// goesOn has a fetch go on to its next place.
func goesOn(f api.Fetch, now uint64) told {
	if len(f.Set) == 0 {
		return told{f: f}
	}
	next := new(big.Int).Add(big.NewInt(int64(f.At)), big.NewInt(1))
	if next.Sign() < 0 || next.Cmp(big.NewInt(math.MaxInt)) > 0 {
		next.SetInt64(0)
	}
	f.At = int(next.Mod(next, big.NewInt(int64(len(f.Set)))).Int64())
	return asks(f, now)
}

// created tells what New should answer.
func created(l api.Ledger, n, tag, now uint64) told {
	if !plan.MayLedger(l) || n == 0 || n > 8 {
		return told{e: 1}
	}
	if l.Closed != 0 && l.Last < n {
		return told{e: 1}
	}
	return asks(api.Fetch{Ledger: l.Id, N: n, Set: stripe.Set(l.Frags, l.W, n), Tag: tag}, now)
}

// taken tells what Take should answer.
func taken(f api.Fetch, now uint64, r api.Resp) told {
	its := r.Kind == 3 && r.Ledger == f.Ledger && r.N == f.N && r.Epoch == f.Tag
	if f.Done == 1 || !its {
		return told{f: f}
	}
	if r.Code == 0 && slices.Contains(f.Set, r.From) {
		f.Done, f.Body = 1, r.Body
		return told{f: f}
	}
	for i, p := range f.Set {
		same := p == r.From
		if r.Code == 4 {
			same = p.Node == r.From.Node
		}
		if i == f.At && same && r.Code >= 1 && r.Code <= 4 {
			return goesOn(f, now)
		}
	}
	return told{f: f}
}

// ticked tells what Tick should answer.
func ticked(f api.Fetch, now uint64) told {
	if f.Done == 1 || !behind(now, f.Since, 3) {
		return told{f: f}
	}
	return goesOn(f, now)
}

// moved tells what Moved should answer.
func moved(f api.Fetch, now uint64, l api.Ledger) told {
	set := stripe.Set(l.Frags, l.W, f.N)
	if f.Done == 1 || l.Id != f.Ledger || !plan.MayLedger(l) || alike(set, f.Set) {
		return told{f: f}
	}
	f.Set, f.At = set, 0
	return asks(f, now)
}

// The calls, held against the model.

// holds looks whether a call answered what it should.
func holds(t *testing.T, got, want told, call ...any) {
	t.Helper()
	if !alike(got, want) {
		t.Fatalf("%+v:\n%+v, not\n%+v", call, got, want)
	}
}

// begins has New called, and looks at what it answers.
func begins(t *testing.T, l api.Ledger, n, tag, now uint64) told {
	t.Helper()
	var x told
	x.f, x.reqs, x.e = reader.New(l, n, tag, now)
	holds(t, x, created(l, n, tag, now), "New", l, n, tag, now)
	return x
}

// takes has Take called, and looks at what it answers.
func takes(t *testing.T, f api.Fetch, now uint64, r api.Resp) told {
	t.Helper()
	var x told
	x.f, x.reqs = reader.Take(f, now, r)
	holds(t, x, taken(f, now, r), "Take", f, now, r)
	return x
}

// ticks has Tick called, and looks at what it answers.
func ticks(t *testing.T, f api.Fetch, now uint64) told {
	t.Helper()
	var x told
	x.f, x.reqs = reader.Tick(f, now)
	holds(t, x, ticked(f, now), "Tick", f, now)
	return x
}

// moves has Moved called, and looks at what it answers.
func moves(t *testing.T, f api.Fetch, now uint64, l api.Ledger) told {
	t.Helper()
	var x told
	x.f, x.reqs = reader.Moved(f, now, l)
	holds(t, x, moved(f, now, l), "Moved", f, now, l)
	return x
}

// Values as tests hold them against each other, and have them in memory of their own.

// alike tells whether two values are the same; a list that is none is the same as an empty one.
func alike(a, b any) bool { return fmt.Sprintf("%+v", a) == fmt.Sprintf("%+v", b) }

// twin tells the same value in memory of its own, not by way of the package.
func twin[T any](x T) T { return roomy(x, 0) }

// roomy tells the same value in memory of its own, with room for so many more behind each list's end: what stands there is not zero.
func roomy[T any](x T, room int) T { return deep(reflect.ValueOf(x), room).Interface().(T) }

// deep does what roomy does.
func deep(v reflect.Value, room int) reflect.Value {
	c := reflect.New(v.Type()).Elem()
	c.Set(v)
	switch v.Kind() {
	case reflect.Struct:
		for i := range v.NumField() {
			c.Field(i).Set(deep(v.Field(i), room))
		}
	case reflect.Slice:
		size := v.Len()
		c.Set(reflect.MakeSlice(v.Type(), size+room, size+room))
		for i := range size + room {
			if i < size {
				c.Index(i).Set(deep(v.Index(i), room))
			} else {
				walk(c.Index(i), func(x reflect.Value) { set(x, 0x5eed) })
			}
		}
		c.Set(c.Slice(0, size))
	}
	return c
}

// walk goes over the numbers of a value; it tells its lists.
func walk(v reflect.Value, visit func(reflect.Value)) []reflect.Value {
	var lists []reflect.Value
	switch v.Kind() {
	case reflect.Struct:
		for i := range v.NumField() {
			lists = append(lists, walk(v.Field(i), visit)...)
		}
	case reflect.Slice:
		lists = append(lists, v)
		for i := range v.Len() {
			lists = append(lists, walk(v.Index(i), visit)...)
		}
	default:
		visit(v)
	}
	return lists
}

// set has a number be x, as far as it has room for it.
func set(v reflect.Value, x uint64) {
	if v.CanInt() {
		v.SetInt(int64(x))
	} else {
		v.SetUint(x)
	}
}

// Fetches, and what they are told, drawn from a row of chance that is the same at each run.

// one draws one of a row.
func one[T any](d *rand.Rand, l ...T) T { return l[d.IntN(len(l))] }

// some draws some of a row, in any order.
func some[T any](d *rand.Rand, l []T) []T {
	var row []T
	for _, i := range d.Perm(len(l))[:d.IntN(len(l)+1)] {
		row = append(row, l[i])
	}
	return row
}

// drawRow draws from w to 5 places on unlike nodes, with disks of serials 1 and 2.
func drawRow(d *rand.Rand, w int) []api.Place {
	var row []api.Place
	for _, i := range d.Perm(6)[:w+d.IntN(6-w)] {
		row = append(row, at(i+5, 1+d.Uint64N(2)))
	}
	return row
}

// drawLedger draws a ledger that may be, with one of few Ids.
func drawLedger(d *rand.Rand) api.Ledger {
	l := api.Ledger{Id: 1 + d.Uint64N(3), W: 1 + d.IntN(4), Closed: d.IntN(2)}
	l.A = 1 + d.IntN(l.W)
	for first := uint64(1); first <= 9 && len(l.Frags) < 6; first += 1 + d.Uint64N(4) {
		l.Frags = append(l.Frags, frag(first, drawRow(d, l.W)...))
		if d.IntN(3) == 0 {
			break
		}
	}
	if l.Closed == 1 {
		l.Last = d.Uint64N(9)
	}
	return l
}

// drawFetch draws a fetch as one may come to be, of an entry of the ledger.
func drawFetch(d *rand.Rand, l api.Ledger) api.Fetch {
	f := api.Fetch{Ledger: l.Id, N: 1 + d.Uint64N(8), Since: d.Uint64N(50), Tag: d.Uint64N(4)}
	f.Set = stripe.Set(l.Frags, l.W, f.N)
	f.At = d.IntN(len(f.Set))
	if d.IntN(8) == 0 {
		f.Done, f.Body = 1, bytes.Repeat([]byte{byte(d.IntN(9))}, d.IntN(4))
	}
	return f
}

// drawResp draws what a bookie answers a fetch, more often than not the one that it asks.
func drawResp(d *rand.Rand, f api.Fetch) api.Resp {
	r := api.Resp{Kind: api.ReqGet, Code: d.IntN(5), Ledger: f.Ledger, N: f.N, Epoch: f.Tag, Sure: d.Uint64N(10), From: at(5+d.IntN(6), 1+d.Uint64N(3))}
	r.Body = bytes.Repeat([]byte{byte(d.IntN(9))}, d.IntN(4))
	switch size := len(f.Set); {
	case f.At >= 0 && f.At < size && d.IntN(2) == 0:
		r.From = f.Set[f.At]
	case size > 0 && d.IntN(2) == 0:
		r.From = one(d, f.Set...)
	}
	if d.IntN(6) == 0 {
		r.From.Serial++
	}
	return r
}

// drawMove draws a ledger of which a fetch may be told, more often than not its own.
func drawMove(d *rand.Rand, l api.Ledger) api.Ledger {
	m := twin(l)
	switch d.IntN(4) {
	case 0:
		m = drawLedger(d)
	case 1:
		m.Frags = drawLedger(d).Frags
	case 2:
		m.Frags[0].Bookies[0] = at(4, 1)
	}
	return m
}

// edges tells numbers at which something may change.
func edges() []uint64 {
	l := []uint64{1<<32 + 1, 1 << 63, 1<<63 - 1, top - 1, top, top + 1}
	for i := range uint64(12) {
		l = append(l, i, -i)
	}
	return l
}

// altered tells a value, one of whose numbers, or lists, was altered.
func altered[T any](d *rand.Rand, x T) T {
	x = twin(x)
	var numbers []reflect.Value
	lists := walk(reflect.ValueOf(&x).Elem(), func(n reflect.Value) { numbers = append(numbers, n) })
	if d.IntN(4) > 0 || len(lists) == 0 {
		set(one(d, numbers...), one(d, edges()...))
		return x
	}
	l := one(d, lists...)
	switch n := l.Len(); {
	case n == 0:
		l.Set(reflect.MakeSlice(l.Type(), 1, 1))
	case d.IntN(2) == 0:
		i := d.IntN(n)
		l.Set(reflect.AppendSlice(deep(l.Slice(0, i), 0), l.Slice(i+1, n)))
	default:
		l.Set(reflect.Append(deep(l, 0), deep(l.Index(d.IntN(n)), 0)))
	}
	return x
}

// drawAny draws a fetch of whose fields some may be any, with a ledger.
func drawAny(d *rand.Rand) (api.Fetch, api.Ledger) {
	l := drawLedger(d)
	f := drawFetch(d, l)
	for range one(d, 0, 0, 1, 1, 2, 5) {
		f = altered(d, f)
	}
	return f, l
}
