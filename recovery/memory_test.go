package recovery_test

import (
	"math/rand/v2"
	"reflect"
	"slices"
	"testing"

	"scrivener/api"
	"scrivener/recovery"
)

// apart looks whether no two lists of values have memory in common, the room behind their ends neither.
func apart(t *testing.T, values ...any) {
	t.Helper()
	var spans [][2]uintptr
	for _, v := range values {
		for _, x := range walk(reflect.ValueOf(v), func(reflect.Value) {}) {
			if size := uintptr(x.Cap()) * x.Type().Elem().Size(); size > 0 {
				spans = append(spans, [2]uintptr{x.Pointer(), x.Pointer() + size})
			}
		}
	}
	slices.SortFunc(spans, func(a, b [2]uintptr) int { return int(a[0]) - int(b[0]) })
	for i := 1; i < len(spans); i++ {
		if spans[i][0] < spans[i-1][1] {
			t.Fatalf("memory in common: %+v", values)
		}
	}
}

// wholes tells all numbers of values, those in the room behind lists' ends, too.
func wholes(values ...any) []uint64 {
	var l []uint64
	add := func(x reflect.Value) {
		if x.CanInt() {
			l = append(l, uint64(x.Int()))
		} else {
			l = append(l, x.Uint())
		}
	}
	for _, v := range values {
		for _, x := range walk(reflect.ValueOf(v), add) {
			l = append(l, uint64(x.Len()))
			walk(x.Slice(0, x.Cap()), add)
		}
	}
	return l
}

// given is what calls are handed.
type given struct {
	r     api.Recovery
	x     api.Resp
	known []api.Place
	now   uint64
}

// drawGiven draws what calls are handed.
func drawGiven(d *rand.Rand) given {
	r := drawRecovery(d)
	return given{r, drawResp(d, r), drawRow(d, 0), d.Uint64N(50)}
}

// apartAll has all calls done to values with so much room behind each list's end, and looks whether they stay, and what is answered shares no memory.
func apartAll(t *testing.T, g given, room int) {
	t.Helper()
	r, x, known := roomy(g.r, room), roomy(g.x, room), roomy(g.known, room)
	in := []any{r, x, known}
	was := wholes(in...)
	recovery.Same(r, r)
	created, reqs, _ := recovery.New(r.Ledger, 1, g.now)
	taken, more := recovery.Take(r, g.now, x)
	ticked, again := recovery.Tick(r, g.now, known...)
	_, frags, _ := recovery.Ended(r)
	if !slices.Equal(wholes(in...), was) {
		t.Fatalf("%+v was changed", in)
	}
	values := append(in, created, taken, ticked, frags)
	for _, q := range slices.Concat(reqs, more, again) {
		values = append(values, q)
	}
	apart(t, values...)
}

// P16.5: what is handed in stays, and the room behind its lists' ends; what is answered shares no memory with it, nor one list of it with another.
func TestMemory(t *testing.T) {
	d := rand.New(rand.NewPCG(16, 3))
	for range 3000 {
		g := drawGiven(d)
		for _, room := range []int{0, 1, 40} {
			apartAll(t, g, room)
		}
	}
	// In each phase, of a ledger that may not be, and what is left aside, too.
	g := given{whole(), put(api.RespOk, 21, at(5, 6)), firsts(1, 2), 100}
	g.x.Epoch = 14
	for phase := range 6 {
		for _, epoch := range []uint64{5, 14} {
			for _, kind := range []int{api.ReqAdd, api.ReqFence, api.ReqGet} {
				g.r.Phase, g.x.Epoch, g.x.Kind = phase, epoch, kind
				apartAll(t, g, 3)
			}
		}
	}
}

// P16.5: what is answered is the caller's: what is done to it shows in no later answer.
func TestAnswersAreApart(t *testing.T) {
	spoil := func(x any) {
		for _, l := range walk(reflect.ValueOf(x).Elem(), func(v reflect.Value) { set(v, 99) }) {
			walk(l.Slice(0, l.Cap()), func(v reflect.Value) { set(v, 99) })
		}
	}
	d := rand.New(rand.NewPCG(16, 4))
	for range 1000 {
		g := drawGiven(d)
		for range 2 {
			for _, x := range []told{begins(t, g.r.Ledger, 3, g.now), takes(t, g.r, g.now, g.x), ticks(t, g.r, g.now, g.known...)} {
				spoil(&x.r)
				for i := range x.reqs {
					spoil(&x.reqs[i])
				}
			}
			_, frags, _ := recovery.Ended(g.r)
			spoil(&api.Recovery{Frags: frags})
			ends(t, g.r)
		}
	}
}

// R5: what a call answers hangs on nothing but what it is handed.
func TestOnceMore(t *testing.T) {
	d := rand.New(rand.NewPCG(16, 5))
	for range 300 {
		g := drawGiven(d)
		for range 3 {
			a, reqs := recovery.Tick(g.r, g.now, g.known...)
			b, others := recovery.Tick(g.r, g.now, g.known...)
			if !recovery.Same(a, b) || !alike(reqs, others) {
				t.Fatalf("%+v", g)
			}
			a, reqs = recovery.Take(g.r, g.now, g.x)
			b, others = recovery.Take(g.r, g.now, g.x)
			if !recovery.Same(a, b) || !alike(reqs, others) {
				t.Fatalf("%+v", g)
			}
		}
	}
}

// R1: no arguments have a call panic, or not end.
func TestAnyArguments(t *testing.T) {
	d := rand.New(rand.NewPCG(16, 6))
	for range 5000 {
		var r api.Recovery
		var x api.Resp
		for range d.IntN(14) {
			r, x = altered(d, r), altered(d, x)
		}
		now := one(d, edges()...)
		begins(t, r.Ledger, r.Epoch, now)
		takes(t, r, now, x)
		ticks(t, r, now, r.Heard...)
		ends(t, r)
	}
}

// R1: many places, and entries of many bytes.
func TestMany(t *testing.T) {
	const many = 1 << 15
	var row []api.Place
	for i := range many {
		row = append(row, at(i, 1))
	}
	r := api.Recovery{Ledger: api.Ledger{Id: 1, W: many, A: 2, Frags: []api.Frag{frag(1, row...)}}, Epoch: 5, N: 1, Frags: []api.Frag{frag(1, row...)}}
	for phase, c := range map[int]struct {
		heard, none, has []api.Place
		asked            []api.Place
	}{
		1: {row[5:], nil, nil, row[:5]},
		2: {row, row[:many-7], nil, row[many-7:]},
		3: {nil, nil, row[:many-3], row[many-3:]},
	} {
		r.Phase, r.Heard, r.None, r.Has, r.Body = phase, c.heard, c.none, c.has, make([]byte, 1<<20)
		x, reqs := recovery.Tick(r, 3)
		if len(reqs) != len(c.asked) || reqs[0].To != c.asked[0] || x.Since != 3 {
			t.Errorf("phase %d: %d asked", phase, len(reqs))
		}
	}
	r.Phase, r.Has, r.Body, r.Bad = 3, row[:1], nil, row[many/2:]
	x, reqs := recovery.Take(r, 9, resp(api.ReqAdd, api.RespFull, 1, row[1]))
	if len(x.Bad) != many/2+1 || x.Bad[many/2] != row[1] || len(reqs) > 0 {
		t.Errorf("%d bad, %d asked", len(x.Bad), len(reqs))
	}
	x, reqs = recovery.Tick(r, 9)
	if len(x.Bad) != 0 || len(reqs) != many-1 {
		t.Errorf("%d bad, %d asked", len(x.Bad), len(reqs))
	}
}
