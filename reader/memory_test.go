package reader_test

import (
	"bytes"
	"fmt"
	"math/rand/v2"
	"reflect"
	"slices"
	"testing"

	"scrivener/api"
	"scrivener/reader"
)

// apart looks whether no two lists of values have memory in common, the room behind their ends neither.
func apart(t *testing.T, values ...any) {
	t.Helper()
	var spans [][2]uintptr
	for _, v := range values {
		for _, x := range walk(reflect.ValueOf(v), func(reflect.Value) {}) {
			if size := uintptr(x.Cap()) * x.Type().Elem().Size(); size > 0 {
				spans = append(spans, [2]uintptr{x.Pointer(), x.Pointer() + size})
			}
		}
	}
	slices.SortFunc(spans, func(a, b [2]uintptr) int { return int(a[0]) - int(b[0]) })
	for i := 1; i < len(spans); i++ {
		if spans[i][0] < spans[i-1][1] {
			t.Fatalf("memory in common: %+v", values)
		}
	}
}

// wholes tells all numbers of values, those in the room behind lists' ends, too.
func wholes(values ...any) []uint64 {
	var l []uint64
	add := func(x reflect.Value) {
		if x.CanInt() {
			l = append(l, uint64(x.Int()))
		} else {
			l = append(l, x.Uint())
		}
	}
	for _, v := range values {
		for _, x := range walk(reflect.ValueOf(v), add) {
			l = append(l, uint64(x.Len()))
			walk(x.Slice(0, x.Cap()), add)
		}
	}
	return l
}

// given is what calls are handed.
type given struct {
	f   api.Fetch
	r   api.Resp
	l   api.Ledger // of which New is told
	m   api.Ledger // of which Moved is told
	now uint64
}

// drawGiven draws what calls are handed.
func drawGiven(d *rand.Rand) given {
	l := drawLedger(d)
	f := drawFetch(d, l)
	return given{f, drawResp(d, f), l, drawMove(d, l), d.Uint64N(60)}
}

// apartAll has all calls done to values with so much room behind each list's end, and looks whether they stay, and what is answered shares no memory.
func apartAll(t *testing.T, g given, room int) {
	t.Helper()
	f, r, l, m := roomy(g.f, room), roomy(g.r, room), roomy(g.l, room), roomy(g.m, room)
	in := []any{f, r, l, m}
	was := wholes(in...)
	reader.Same(f, f)
	created, reqs, _ := reader.New(l, g.f.N, g.f.Tag, g.now)
	taken, more := reader.Take(f, g.now, r)
	ticked, again := reader.Tick(f, g.now)
	moved, anew := reader.Moved(f, g.now, m)
	if !slices.Equal(wholes(in...), was) {
		t.Fatalf("%+v was changed", in)
	}
	values := append(in, created, taken, ticked, moved)
	for _, q := range slices.Concat(reqs, more, again, anew) {
		values = append(values, q)
	}
	apart(t, values...)
}

// P17.5: what is handed in stays, and the room behind its lists' ends; what is answered shares no memory with it, nor one list of it with another.
func TestMemory(t *testing.T) {
	d := rand.New(rand.NewPCG(17, 3))
	for range 3000 {
		g := drawGiven(d)
		for _, room := range []int{0, 1, 40} {
			apartAll(t, g, room)
			g.f.Done, g.f.Body = 1-g.f.Done, []byte{1, 2}
		}
	}
}

// P17.5: what is answered is the caller's: what is done to it shows in no later answer.
func TestAnswersAreApart(t *testing.T) {
	spoil := func(x any) {
		for _, l := range walk(reflect.ValueOf(x).Elem(), func(v reflect.Value) { set(v, 99) }) {
			walk(l.Slice(0, l.Cap()), func(v reflect.Value) { set(v, 99) })
		}
	}
	d := rand.New(rand.NewPCG(17, 4))
	for range 1000 {
		g := drawGiven(d)
		for range 2 {
			for _, x := range []told{begins(t, g.l, g.f.N, g.f.Tag, g.now), takes(t, g.f, g.now, g.r), ticks(t, g.f, g.now), moves(t, g.f, g.now, g.m)} {
				spoil(&x.f)
				for i := range x.reqs {
					spoil(&x.reqs[i])
				}
			}
		}
	}
}

// R5: what a call answers hangs on nothing but what it is handed.
func TestOnceMore(t *testing.T) {
	d := rand.New(rand.NewPCG(17, 5))
	for range 300 {
		g := drawGiven(d)
		var first string
		for i := range 3 {
			all := fmt.Sprintf("%+v", []told{begins(t, g.l, g.f.N, g.f.Tag, g.now), takes(t, g.f, g.now, g.r), ticks(t, g.f, g.now), moves(t, g.f, g.now, g.m)})
			if i == 0 {
				first = all
			}
			if all != first {
				t.Fatalf("%s, then %s", first, all)
			}
		}
	}
}

// R1: no arguments have a call panic, or not end.
func TestAnyArguments(t *testing.T) {
	d := rand.New(rand.NewPCG(17, 6))
	for range 5000 {
		var f api.Fetch
		var r api.Resp
		var l api.Ledger
		for range d.IntN(14) {
			f, r, l = altered(d, f), altered(d, r), altered(d, l)
		}
		now := one(d, edges()...)
		begins(t, l, f.N, f.Tag, now)
		takes(t, f, now, r)
		ticks(t, f, now)
		moves(t, f, now, l)
	}
}

// R1: many places, and entries of many bytes.
func TestMany(t *testing.T) {
	const many = 1 << 18
	var row []api.Place
	for i := range many {
		row = append(row, at(i, 1))
	}
	f := api.Fetch{Ledger: 1, N: 2, Set: row, At: many - 2, Since: 3, Tag: 5}
	f, reqs := reader.Tick(f, 6)
	isAsked(t, reqs, at(many-1, 1))
	f, reqs = reader.Tick(f, 9)
	isAsked(t, reqs, at(0, 1))
	body := make([]byte, 1<<22)
	body[1<<21] = 7
	r := resp(api.RespOk, at(many-1, 1))
	r.Body = body
	f, reqs = reader.Take(f, 9, r)
	if isAsked(t, reqs); f.Done != 1 || !bytes.Equal(f.Body, body) {
		t.Error("not the entry")
	}
}
