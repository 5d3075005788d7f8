package copier_test

import (
	"bytes"
	"fmt"
	"math/rand/v2"
	"reflect"
	"slices"
	"testing"

	"scrivener/api"
	"scrivener/copier"
)

// apart looks whether no two lists of values have memory in common, the room behind their ends neither.
func apart(t *testing.T, values ...any) {
	t.Helper()
	var spans [][2]uintptr
	for _, v := range values {
		for _, x := range walk(reflect.ValueOf(v), func(reflect.Value) {}) {
			if size := uintptr(x.Cap()) * x.Type().Elem().Size(); size > 0 {
				spans = append(spans, [2]uintptr{x.Pointer(), x.Pointer() + size})
			}
		}
	}
	slices.SortFunc(spans, func(a, b [2]uintptr) int { return int(a[0]) - int(b[0]) })
	for i := 1; i < len(spans); i++ {
		if spans[i][0] < spans[i-1][1] {
			t.Fatalf("memory in common: %+v", values)
		}
	}
}

// wholes tells all numbers of values, those in the room behind lists' ends, too.
func wholes(values ...any) []uint64 {
	var l []uint64
	add := func(x reflect.Value) {
		if x.CanInt() {
			l = append(l, uint64(x.Int()))
		} else {
			l = append(l, x.Uint())
		}
	}
	for _, v := range values {
		for _, x := range walk(reflect.ValueOf(v), add) {
			l = append(l, uint64(x.Len()))
			walk(x.Slice(0, x.Cap()), add)
		}
	}
	return l
}

// given is what calls are handed.
type given struct {
	c     api.Copier
	r     api.Resp
	p     api.Plan
	known []api.Place
	now   uint64
}

// drawGiven draws what calls are handed.
func drawGiven(d *rand.Rand) given {
	c := drawCopier(d)
	return given{c, drawResp(d, c), drawPlan(d), drawKnown(d), d.Uint64N(70)}
}

// apartAll has all calls done to values with so much room behind each list's end, and looks whether they stay, and what is answered shares no memory.
func apartAll(t *testing.T, g given, room int) {
	t.Helper()
	c, r, p, known := roomy(g.c, room), roomy(g.r, room), roomy(g.p, room), roomy(g.known, room)
	in := []any{c, r, p, known}
	was := wholes(in...)
	copier.Same(c, c)
	copier.Find(p, known...)
	copier.Fits(c.Ledger, c.From, c.To)
	row := copier.Had(c.Ledger, c.From)
	created, reqs, _ := copier.New(c.Ledger, c.From, c.To, g.now)
	taken, more := copier.Take(c, g.now, r)
	ticked, again := copier.Tick(c, g.now)
	if !slices.Equal(wholes(in...), was) {
		t.Fatalf("%+v was changed", in)
	}
	values := append(in, row, created, taken, ticked)
	for _, q := range slices.Concat(reqs, more, again) {
		values = append(values, q)
	}
	apart(t, values...)
}

// P18.5: what is handed in stays, and the room behind its lists' ends; what is answered shares no memory with it, nor one list of it with another.
func TestMemory(t *testing.T) {
	d := rand.New(rand.NewPCG(18, 5))
	for range 3000 {
		g := drawGiven(d)
		for _, room := range []int{0, 1, 40} {
			apartAll(t, g, room)
		}
	}
	// In each phase, of a ledger that may not be, and what is left aside, too.
	g := given{c: whole(), r: got(21, 6, at(5, 6), "ab"), now: 100}
	for phase := range 6 {
		for _, epoch := range []uint64{0, 5} {
			g.c.Phase, g.r.Epoch = phase, epoch
			apartAll(t, g, 3)
		}
	}
}

// P18.5: what is answered is the caller's: what is done to it shows in no later answer.
func TestAnswersAreApart(t *testing.T) {
	spoil := func(x any) {
		for _, l := range walk(reflect.ValueOf(x).Elem(), func(v reflect.Value) { set(v, 99) }) {
			walk(l.Slice(0, l.Cap()), func(v reflect.Value) { set(v, 99) })
		}
	}
	d := rand.New(rand.NewPCG(18, 6))
	for range 1000 {
		g := drawGiven(d)
		for range 2 {
			for _, x := range []told{begins(t, g.c.Ledger, g.c.From, g.c.To, g.now), takes(t, g.c, g.now, g.r), ticks(t, g.c, g.now)} {
				spoil(&x.c)
				for i := range x.reqs {
					spoil(&x.reqs[i])
				}
			}
			row := had(t, g.c.Ledger, g.c.From)
			spoil(&row)
		}
	}
}

// R5: what a call answers hangs on nothing but what it is handed.
func TestOnceMore(t *testing.T) {
	d := rand.New(rand.NewPCG(18, 7))
	for range 300 {
		g := drawGiven(d)
		var first string
		for i := range 3 {
			all := fmt.Sprintf("%+v", []any{
				begins(t, g.c.Ledger, g.c.From, g.c.To, g.now), takes(t, g.c, g.now, g.r), ticks(t, g.c, g.now),
				finds(t, g.p, g.known...), had(t, g.c.Ledger, g.c.From),
			})
			if i == 0 {
				first = all
			}
			if all != first {
				t.Fatalf("%s, then %s", first, all)
			}
		}
	}
}

// R1: no arguments have a call panic, or not end.
func TestAnyArguments(t *testing.T) {
	d := rand.New(rand.NewPCG(18, 8))
	for range 5000 {
		var c api.Copier
		var r api.Resp
		var p api.Plan
		for range d.IntN(14) {
			c, r, p = altered(d, c), altered(d, r), altered(d, p)
		}
		now := one(d, edges()...)
		begins(t, c.Ledger, c.From, c.To, now)
		takes(t, c, now, r)
		ticks(t, c, now)
		finds(t, p, c.None...)
		fits(t, c.Ledger, c.From, c.To)
		had(t, c.Ledger, c.From)
	}
}

// R1: many places, and entries of many bytes.
func TestMany(t *testing.T) {
	const many = 1 << 18
	var row []api.Place
	for i := range many {
		row = append(row, at(i, 1))
	}
	l := api.Ledger{Id: 1, W: many, Last: 1 << 60, Closed: 1, Frags: []api.Frag{frag(1, row...)}}
	if copier.Fits(l, row[7], at(9, 2)) || !copier.Fits(l, row[7], at(many, 2)) {
		t.Error("fits")
	}
	if len(copier.Had(l, row[7])) > 0 {
		t.Error("had")
	}
	known := append(slices.Clone(row[:many-1]), at(many-1, 2))
	if id, from, to, ok := copier.Find(api.Plan{Ledgers: []api.Ledger{l}}, known...); id != 1 || from != row[many-1] || to != known[many-1] || !ok {
		t.Errorf("found: %d, %v, %v, %v", id, from, to, ok)
	}
	c := api.Copier{Ledger: l, From: row[7], To: at(many, 1), Phase: 1, N: 1, None: row[:many-1]}
	x, reqs := copier.Tick(c, 3)
	if isAsked(t, reqs, 1, 1, row[many-1]); len(x.None) != many-1 {
		t.Errorf("%d have none", len(x.None))
	}
	x, reqs = copier.Take(x, 4, none(1, 1, row[many-1], api.RespNone))
	if isNone(t, reqs); len(x.None) != many {
		t.Errorf("%d have none", len(x.None))
	}
	x, reqs = copier.Tick(x, 6)
	if len(reqs) != many-1 || len(x.None) != 0 {
		t.Errorf("%d have none, %d asked", len(x.None), len(reqs))
	}
	body := make([]byte, 1<<22)
	body[1<<21] = 7
	r := got(1, 1, row[many-1], "")
	r.Body = body
	x, reqs = copier.Take(x, 7, r)
	if len(reqs) != 1 || !bytes.Equal(x.Body, body) || !bytes.Equal(reqs[0].Body, body) {
		t.Error("not the entry")
	}
}
