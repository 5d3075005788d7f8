package copier_test

import (
	"bytes"
	"fmt"
	"math/big"
	"math/rand/v2"
	"reflect"
	"slices"
	"testing"

	"scrivener/api"
	"scrivener/copier"
	"scrivener/plan"
	"scrivener/stripe"
)

// top is the greatest number that ids and disks may have.
const top = 1<<62 - 1

// The model: a copier as the chapter's words say it, not by way of the package.

// told is what a call answers.
type told struct {
	c    api.Copier
	reqs []api.Req
	e    api.Errno
}

// found is what Find answers.
type found struct {
	ledger   uint64
	from, to api.Place
	ok       bool
}

// at tells the place of a node with a disk of that serial.
func at(node int, serial uint64) api.Place { return api.Place{Node: node, Serial: serial} }

// firsts tells the places of those nodes, each with its first disk.
func firsts(nodes ...int) []api.Place {
	var l []api.Place
	for _, n := range nodes {
		l = append(l, at(n, 1))
	}
	return l
}

// frag tells a fragment.
func frag(first uint64, bookies ...api.Place) api.Frag {
	return api.Frag{First: first, Bookies: bookies}
}

// less tells those of a row that are not among others.
func less(row []api.Place, others ...api.Place) []api.Place {
	var l []api.Place
	for _, p := range row {
		if !slices.Contains(others, p) {
			l = append(l, p)
		}
	}
	return l
}

// behind tells whether so many ticks have gone by since then.
func behind(now, then uint64, ticks int64) bool {
	due := new(big.Int).Add(new(big.Int).SetUint64(then), big.NewInt(ticks))
	return due.Cmp(new(big.Int).SetUint64(now)) <= 0
}

// isGone tells whether a place is gone.
func isGone(p api.Place, known []api.Place) bool {
	for _, k := range known {
		if k.Node == p.Node && k.Serial != p.Serial {
			return true
		}
	}
	return false
}

// fitting tells what Fits should answer.
func fitting(l api.Ledger, from, to api.Place) bool {
	stands := false
	for _, f := range l.Frags {
		rest := less(f.Bookies, from)
		if len(rest) == len(f.Bookies) {
			continue
		}
		stands = true
		for _, p := range rest {
			if p.Node == to.Node {
				return false
			}
		}
	}
	return stands && from != to
}

// finding tells what Find should answer.
func finding(p api.Plan, known []api.Place) found {
	for _, l := range p.Ledgers {
		for _, f := range l.Frags {
			for _, from := range f.Bookies {
				for _, to := range known {
					if l.Closed == 1 && isGone(from, known) && !isGone(to, known) && fitting(l, from, to) {
						return found{l.Id, from, to, true}
					}
				}
			}
		}
	}
	return found{}
}

// having tells what Had should answer.
func having(l api.Ledger, from api.Place) []uint64 {
	var row []uint64
	if l.Closed == 0 || !plan.MayLedger(l) {
		return nil
	}
	for n := uint64(1); n <= l.Last; n++ {
		for _, p := range stripe.Set(l.Frags, l.W, n) {
			if p == from {
				row = append(row, n)
			}
		}
	}
	return row
}

// others tells the places of the entry's write set but From.
func others(c api.Copier) []api.Place {
	return less(stripe.Set(c.Ledger.Frags, c.Ledger.W, c.N), c.From)
}

// asks asks, by the phase.
func asks(c api.Copier, now uint64) told {
	c.Since = now
	if c.Phase == 2 {
		return told{c: c, reqs: []api.Req{{To: c.To, Kind: 1, Ledger: c.Ledger.Id, N: c.N, Sure: c.Ledger.Last, Copy: 1, Body: c.Body}}}
	}
	row := less(others(c), c.None...)
	if len(row) == 0 {
		c.None, row = nil, others(c)
	}
	var reqs []api.Req
	for _, p := range row {
		reqs = append(reqs, api.Req{To: p, Kind: 3, Ledger: c.Ledger.Id, N: c.N})
	}
	return told{c: c, reqs: reqs}
}

// goesOn has a copier go on behind its entry.
func goesOn(c api.Copier, now uint64) told {
	was := c.N
	c.None, c.Body = nil, nil
	for _, n := range having(c.Ledger, c.From) {
		if n > was {
			c.Phase, c.N, c.Born = 1, n, now
			return asks(c, now)
		}
	}
	c.Phase, c.N = 3, 0
	return told{c: c}
}

// created tells what New should answer.
func created(l api.Ledger, from, to api.Place, now uint64) told {
	if !plan.MayLedger(l) || l.Closed == 0 || !fitting(l, from, to) {
		return told{e: 1}
	}
	return goesOn(api.Copier{Ledger: l, From: from, To: to}, now)
}

// taken tells what Take should answer.
func taken(c api.Copier, now uint64, r api.Resp) told {
	ours := r.Ledger == c.Ledger.Id && r.N == c.N && r.Epoch == 0
	got := ours && c.Phase == 1 && r.Kind == 3 && slices.Contains(others(c), r.From)
	put := ours && c.Phase == 2 && r.Kind == 1
	switch {
	case got && r.Code == 0:
		c.Phase, c.Body = 2, r.Body
		return asks(c, now)
	case got && r.Code == 3 && !slices.Contains(c.None, r.From):
		c.None = append(twin(c.None), r.From)
	case put && r.Code == 0 && r.From == c.To:
		return goesOn(c, now)
	case put && r.Code == 2 && r.From == c.To:
		c.Phase = 4
	case put && r.Code == 4 && (r.From == c.To || r.From.Node == c.To.Node):
		c.Phase = 4
	}
	return told{c: c}
}

// ticked tells what Tick should answer.
func ticked(c api.Copier, now uint64) told {
	if c.Phase != 1 && c.Phase != 2 {
		return told{c: c}
	}
	if behind(now, c.Born, 9) {
		c.Phase = 4
		return told{c: c}
	}
	if behind(now, c.Since, 3) {
		return asks(c, now)
	}
	return told{c: c}
}

// The calls, held against the model.

// holds looks whether a call answered what it should.
func holds(t *testing.T, got, want any, call ...any) {
	t.Helper()
	if !alike(got, want) {
		t.Fatalf("%+v:\n%+v, not\n%+v", call, got, want)
	}
}

// finds has Find called, and looks at what it answers.
func finds(t *testing.T, p api.Plan, known ...api.Place) found {
	t.Helper()
	var x found
	x.ledger, x.from, x.to, x.ok = copier.Find(p, known...)
	holds(t, x, finding(p, known), "Find", p, known)
	return x
}

// fits has Fits called, and looks at what it answers.
func fits(t *testing.T, l api.Ledger, from, to api.Place) bool {
	t.Helper()
	x := copier.Fits(l, from, to)
	holds(t, x, fitting(l, from, to), "Fits", l, from, to)
	return x
}

// had has Had called, and looks at what it answers.
func had(t *testing.T, l api.Ledger, from api.Place) []uint64 {
	t.Helper()
	x := copier.Had(l, from)
	holds(t, x, having(l, from), "Had", l, from)
	return x
}

// begins has New called, and looks at what it answers.
func begins(t *testing.T, l api.Ledger, from, to api.Place, now uint64) told {
	t.Helper()
	var x told
	x.c, x.reqs, x.e = copier.New(l, from, to, now)
	holds(t, x, created(l, from, to, now), "New", l, from, to, now)
	return x
}

// takes has Take called, and looks at what it answers.
func takes(t *testing.T, c api.Copier, now uint64, r api.Resp) told {
	t.Helper()
	var x told
	x.c, x.reqs = copier.Take(c, now, r)
	holds(t, x, taken(c, now, r), "Take", c, now, r)
	return x
}

// ticks has Tick called, and looks at what it answers.
func ticks(t *testing.T, c api.Copier, now uint64) told {
	t.Helper()
	var x told
	x.c, x.reqs = copier.Tick(c, now)
	holds(t, x, ticked(c, now), "Tick", c, now)
	return x
}

// Values as tests hold them against each other, and have them in memory of their own.

// alike tells whether two values are the same; a list that is none is the same as an empty one.
func alike(a, b any) bool { return fmt.Sprintf("%+v", a) == fmt.Sprintf("%+v", b) }

// twin tells the same value in memory of its own, not by way of the package.
func twin[T any](x T) T { return roomy(x, 0) }

// roomy tells the same value in memory of its own, with room for so many more behind each list's end: what stands there is not zero.
func roomy[T any](x T, room int) T { return deep(reflect.ValueOf(x), room).Interface().(T) }

// deep does what roomy does.
func deep(v reflect.Value, room int) reflect.Value {
	c := reflect.New(v.Type()).Elem()
	c.Set(v)
	switch v.Kind() {
	case reflect.Struct:
		for i := range v.NumField() {
			c.Field(i).Set(deep(v.Field(i), room))
		}
	case reflect.Slice:
		size := v.Len()
		c.Set(reflect.MakeSlice(v.Type(), size+room, size+room))
		for i := range size + room {
			if i < size {
				c.Index(i).Set(deep(v.Index(i), room))
			} else {
				walk(c.Index(i), func(x reflect.Value) { set(x, 0x5eed) })
			}
		}
		c.Set(c.Slice(0, size))
	}
	return c
}

// walk goes over the numbers of a value; it tells its lists.
func walk(v reflect.Value, visit func(reflect.Value)) []reflect.Value {
	var lists []reflect.Value
	switch v.Kind() {
	case reflect.Struct:
		for i := range v.NumField() {
			lists = append(lists, walk(v.Field(i), visit)...)
		}
	case reflect.Slice:
		lists = append(lists, v)
		for i := range v.Len() {
			lists = append(lists, walk(v.Index(i), visit)...)
		}
	default:
		visit(v)
	}
	return lists
}

// set has a number be x, as far as it has room for it.
func set(v reflect.Value, x uint64) {
	if v.CanInt() {
		v.SetInt(int64(x))
	} else {
		v.SetUint(x)
	}
}

// Copiers, and what they are told, drawn from a row of chance that is the same at each run.

// one draws one of a row.
func one[T any](d *rand.Rand, l ...T) T { return l[d.IntN(len(l))] }

// some draws some of a row, in any order.
func some[T any](d *rand.Rand, l []T) []T {
	var row []T
	for _, i := range d.Perm(len(l))[:d.IntN(len(l)+1)] {
		row = append(row, l[i])
	}
	return row
}

// drawRow draws from w to 5 places on unlike nodes, with disks of serials 1 and 2.
func drawRow(d *rand.Rand, w int) []api.Place {
	var row []api.Place
	for _, i := range d.Perm(7)[:w+d.IntN(6-w)] {
		row = append(row, at(i+5, 1+d.Uint64N(2)))
	}
	return row
}

// drawLedger draws a ledger that may be, with one of few Ids; most are closed.
func drawLedger(d *rand.Rand) api.Ledger {
	l := api.Ledger{Id: 1 + d.Uint64N(3), W: 1 + d.IntN(3), Closed: min(d.IntN(8), 1)}
	l.A = 1 + d.IntN(l.W)
	for first := uint64(1); first <= 9 && len(l.Frags) < 6; first += 1 + d.Uint64N(4) {
		l.Frags = append(l.Frags, frag(first, drawRow(d, l.W)...))
		if d.IntN(3) == 0 {
			break
		}
	}
	if l.Closed == 1 {
		l.Last = min(d.Uint64N(16), 8)
	}
	return l
}

// placesOf tells the places of a ledger.
func placesOf(l api.Ledger) []api.Place {
	var row []api.Place
	for _, f := range l.Frags {
		row = append(row, f.Bookies...)
	}
	return row
}

// drawPair draws a place of a ledger, and one to stand there instead, that fits, more often than not.
func drawPair(d *rand.Rand, l api.Ledger) (from, to api.Place) {
	from = at(5+d.IntN(7), 1+d.Uint64N(2))
	if row := placesOf(l); len(row) > 0 && d.IntN(16) > 0 {
		from = one(d, row...)
	}
	for range 1 + d.IntN(4) {
		if to = at(5+d.IntN(7), 1+d.Uint64N(3)); fitting(l, from, to) {
			break
		}
	}
	return from, to
}

// drawBody draws an entry.
func drawBody(d *rand.Rand) []byte { return bytes.Repeat([]byte{byte(d.IntN(9))}, d.IntN(4)) }

// drawCopier draws a copier as one may come to be.
func drawCopier(d *rand.Rand) api.Copier {
	c := api.Copier{Ledger: drawLedger(d), Phase: one(d, 1, 1, 1, 2, 2, 2, 3, 4), Born: d.Uint64N(50)}
	c.From, c.To = drawPair(d, c.Ledger)
	if c.Phase == 3 {
		return c
	}
	c.N, c.Since = 1+d.Uint64N(8), c.Born+d.Uint64N(9)
	if l := having(c.Ledger, c.From); len(l) > 0 && d.IntN(16) > 0 {
		c.N = one(d, l...)
	}
	c.None = some(d, others(c))
	if c.Phase == 2 {
		c.Body = drawBody(d)
	}
	return c
}

// drawResp draws what a bookie answers a copier, more often than not one that is asked.
func drawResp(d *rand.Rand, c api.Copier) api.Resp {
	r := api.Resp{Kind: one(d, 1, 3), Code: one(d, 0, 0, 0, 1, 2, 3, 3, 4), Ledger: c.Ledger.Id, N: c.N, Sure: d.Uint64N(10), From: at(5+d.IntN(7), 1+d.Uint64N(3)), Body: drawBody(d)}
	switch {
	case d.IntN(4) == 0:
	case c.Phase == 1:
		r.Kind = 3
		if row := others(c); len(row) > 0 {
			r.From = one(d, row...)
		}
	case c.Phase == 2:
		r.Kind, r.From = 1, c.To
	}
	if d.IntN(6) == 0 {
		r.From.Serial++
	}
	return r
}

// drawPlan draws a plan; not as one may come to be, but each ledger may be.
func drawPlan(d *rand.Rand) api.Plan {
	var p api.Plan
	for range d.IntN(5) {
		p.Ledgers = append(p.Ledgers, drawLedger(d))
	}
	return p
}

// drawKnown draws places that are known, as a rule one of a node.
func drawKnown(d *rand.Rand) []api.Place {
	var row []api.Place
	for _, i := range d.Perm(7)[:d.IntN(8)] {
		row = append(row, at(i+5, 1+d.Uint64N(3)))
	}
	if len(row) > 0 && d.IntN(4) == 0 {
		row = append(row, at(one(d, row...).Node, 1+d.Uint64N(3)))
	}
	return row
}

// edges tells numbers at which something may change.
func edges() []uint64 {
	l := []uint64{1<<32 + 1, 1 << 63, 1<<63 - 1, top - 1, top, top + 1}
	for i := range uint64(12) {
		l = append(l, i, -i)
	}
	return l
}

// altered tells a value, one of whose numbers, or lists, was altered.
func altered[T any](d *rand.Rand, x T) T {
	x = twin(x)
	var numbers []reflect.Value
	lists := walk(reflect.ValueOf(&x).Elem(), func(n reflect.Value) { numbers = append(numbers, n) })
	if len(numbers) > 0 && d.IntN(4) > 0 || len(lists) == 0 {
		set(one(d, numbers...), one(d, edges()...))
		return x
	}
	l := one(d, lists...)
	switch n := l.Len(); {
	case n == 0:
		l.Set(reflect.MakeSlice(l.Type(), 1, 1))
	case d.IntN(2) == 0:
		i := d.IntN(n)
		l.Set(reflect.AppendSlice(deep(l.Slice(0, i), 0), l.Slice(i+1, n)))
	default:
		l.Set(reflect.Append(deep(l, 0), deep(l.Index(d.IntN(n)), 0)))
	}
	return x
}

// drawAny draws a copier of whose fields some may be any.
func drawAny(d *rand.Rand) api.Copier {
	c := drawCopier(d)
	for range one(d, 0, 0, 1, 1, 2, 5) {
		c = altered(d, c)
	}
	return c
}
