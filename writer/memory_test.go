package writer_test

import (
	"math"
	"math/rand/v2"
	"reflect"
	"slices"
	"testing"

	"scrivener/api"
	"scrivener/writer"
)

// apart looks whether no two lists of values have memory in common, the room behind their ends neither.
func apart(t *testing.T, values ...any) {
	t.Helper()
	var spans [][2]uintptr
	for _, v := range values {
		for _, x := range walk(reflect.ValueOf(v), func(reflect.Value) {}) {
			if size := uintptr(x.Cap()) * x.Type().Elem().Size(); size > 0 {
				spans = append(spans, [2]uintptr{x.Pointer(), x.Pointer() + size})
			}
		}
	}
	slices.SortFunc(spans, func(a, b [2]uintptr) int { return int(a[0]) - int(b[0]) })
	for i := 1; i < len(spans); i++ {
		if spans[i][0] < spans[i-1][1] {
			t.Fatalf("memory in common: %+v", values)
		}
	}
}

// wholes tells all numbers of values, those in the room behind lists' ends, too.
func wholes(values ...any) []uint64 {
	var l []uint64
	add := func(x reflect.Value) {
		if x.CanInt() {
			l = append(l, uint64(x.Int()))
		} else {
			l = append(l, x.Uint())
		}
	}
	for _, v := range values {
		for _, x := range walk(reflect.ValueOf(v), add) {
			l = append(l, uint64(x.Len()))
			walk(x.Slice(0, x.Cap()), add)
		}
	}
	return l
}

// given is what calls are handed.
type given struct {
	w     api.Writer
	r     api.Resp
	body  []byte
	known []api.Place
	now   uint64
}

// drawGiven draws what calls are handed.
func drawGiven(d *rand.Rand) given {
	w := drawWriter(d)
	return given{w, drawResp(d, w), make([]byte, d.IntN(9)), drawRow(d, 0), d.Uint64N(50)}
}

// apartAll has all calls done to values with so much room behind each list's end, and looks whether they stay, and what is answered shares no memory.
func apartAll(t *testing.T, g given, room int) {
	t.Helper()
	w, r, body, known := roomy(g.w, room), roomy(g.r, room), roomy(g.body, room), roomy(g.known, room)
	in := []any{w, r, body, known}
	was := wholes(in...)
	writer.Full(w)
	writer.Same(w, w)
	created, _ := writer.New(w.Ledger, 1)
	sent, reqs, _ := writer.Send(w, g.now, body)
	taken := writer.Take(w, g.now, r)
	ticked, again := writer.Tick(w, g.now)
	asked, frag, _ := writer.Ask(w, 4, known...)
	changed, anew := writer.Changed(w, g.now, true)
	stayed, more := writer.Changed(w, g.now, false)
	if !slices.Equal(wholes(in...), was) {
		t.Fatalf("%+v was changed", in)
	}
	values := append(in, created, sent, taken, ticked, asked, frag, changed, stayed)
	for _, x := range slices.Concat(reqs, again, anew, more) {
		values = append(values, x)
	}
	apart(t, values...)
}

// P15.8: what is handed in stays, and the room behind its lists' ends; what is answered shares no memory with it, nor one list of it with another.
func TestMemory(t *testing.T) {
	d := rand.New(rand.NewPCG(15, 3))
	for range 3000 {
		g := drawGiven(d)
		for _, room := range []int{0, 1, 40} {
			apartAll(t, g, room)
		}
	}
	// Beside errors, too: of a writer that is fenced, or full, of a body that is too long, of a ledger that may not be.
	g := given{whole(), resp(api.RespOk, 17, at(5, 6)), make([]byte, 3000), firsts(1, 2), 100}
	for _, fenced := range []int{0, 1} {
		for _, next := range []uint64{3, 15} {
			for _, size := range []int{5, 3000} {
				g.w.Fenced, g.w.Next, g.body = fenced, next, make([]byte, size)
				apartAll(t, g, 3)
			}
		}
	}
}

// P15.8: what is answered is the caller's: what is done to it shows in no later answer.
func TestAnswersAreApart(t *testing.T) {
	spoil := func(x any) {
		for _, l := range walk(reflect.ValueOf(x).Elem(), func(v reflect.Value) { set(v, 99) }) {
			walk(l.Slice(0, l.Cap()), func(v reflect.Value) { set(v, 99) })
		}
	}
	d := rand.New(rand.NewPCG(15, 4))
	for range 1000 {
		g := drawGiven(d)
		for range 2 {
			for _, x := range []told{sends(t, g.w, g.now, g.body), takes(t, g.w, g.now, g.r), ticks(t, g.w, g.now), asks(t, g.w, 4, g.known...), changes(t, g.w, g.now, true)} {
				spoil(&x.w)
				spoil(&x.frag)
				for i := range x.reqs {
					spoil(&x.reqs[i])
				}
			}
		}
	}
}

// R5: what a call answers hangs on nothing but what it is handed.
func TestAgain(t *testing.T) {
	d := rand.New(rand.NewPCG(15, 5))
	for range 300 {
		g := drawGiven(d)
		for range 3 {
			a, reqs := writer.Tick(g.w, g.now)
			b, others := writer.Tick(g.w, g.now)
			if !writer.Same(a, b) || !alike(reqs, others) {
				t.Fatalf("%+v", g)
			}
			a, f, ok := writer.Ask(g.w, 4, g.known...)
			b, h, also := writer.Ask(g.w, 4, g.known...)
			if !writer.Same(a, b) || !alike(f, h) || ok != also || !writer.Same(writer.Take(g.w, 1, g.r), writer.Take(g.w, math.MaxUint64, g.r)) {
				t.Fatalf("%+v", g)
			}
		}
	}
}

// R1: no arguments have a call panic, or not end.
func TestAnyArguments(t *testing.T) {
	d := rand.New(rand.NewPCG(15, 6))
	for range 3000 {
		var w api.Writer
		var r api.Resp
		for range d.IntN(12) {
			w, r = altered(d, w), altered(d, r)
		}
		now := one(d, edges()...)
		begins(t, w.Ledger, w.Epoch)
		sends(t, w, now, r.Body)
		takes(t, w, now, r)
		ticks(t, w, now)
		asks(t, w, int(now), w.Bad...)
		changes(t, w, now, d.IntN(2) == 0)
	}
}

// R1: many entries that wait, places and bad ones; entries' numbers that stand twice, and places.
func TestMany(t *testing.T) {
	var row []api.Place
	for i := range 1 << 16 {
		row = append(row, at(i, 1))
	}
	w := api.Writer{Ledger: api.Ledger{Id: 1, W: 2, A: 2, Frags: []api.Frag{frag(1, row...)}}, Epoch: 4, Next: 5, Bad: slices.Clone(row[1<<15:])}
	for i := range uint64(1 << 16) {
		w.Waits = append(w.Waits, api.Waiting{N: i + 1, From: slices.Clone(row[i : i+1])})
	}
	x, reqs := writer.Tick(w, 9)
	if len(reqs) != 1<<16 || len(x.Bad) != 1<<16 || !slices.Equal(x.Bad[1<<15:], append(row[1:1<<15:1<<15], row[0])) {
		t.Errorf("%d asked, %d bad", len(reqs), len(x.Bad))
	}
	x = writer.Take(w, 9, resp(api.RespOk, 1, row[1]))
	isSure(t, x, 1, 1<<16-1)
	w.Ledger.W = 1 << 15
	w.Waits = []api.Waiting{{N: 1, From: slices.Repeat(row[1:1<<15], 4)}}
	x, reqs = writer.Tick(w, 9)
	if len(reqs) != 1 || reqs[0].To != row[0] || len(x.Bad) != 1<<15+1 || x.Bad[1<<15] != row[0] {
		t.Errorf("%d asked, %d bad", len(reqs), len(x.Bad))
	}
}
