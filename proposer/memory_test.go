package proposer_test

import (
	"bytes"
	"math"
	"math/rand/v2"
	"reflect"
	"slices"
	"testing"

	"scrivener/api"
	"scrivener/proposer"
)

// spans tells where lists of values stand, with the room behind their ends.
func spans(values ...any) [][2]uintptr {
	var l [][2]uintptr
	for _, v := range values {
		for _, x := range walk(reflect.ValueOf(v), func(reflect.Value) {}) {
			if size := uintptr(x.Cap()) * x.Type().Elem().Size(); size > 0 {
				l = append(l, [2]uintptr{x.Pointer(), x.Pointer() + size})
			}
		}
	}
	slices.SortFunc(l, func(a, b [2]uintptr) int { return int(a[0]) - int(b[0]) })
	return l
}

// apart looks whether no two lists of values have memory in common.
func apart(t *testing.T, values ...any) {
	t.Helper()
	l := spans(values...)
	for i := 1; i < len(l); i++ {
		if l[i][0] < l[i-1][1] {
			t.Fatalf("memory in common: %+v", values)
		}
	}
}

// wholes tells all numbers of a value, those in the room behind lists' ends, too.
func wholes(v any) []uint64 {
	var l []uint64
	add := func(x reflect.Value) {
		if x.CanInt() {
			l = append(l, uint64(x.Int()))
		} else {
			l = append(l, x.Uint())
		}
	}
	for _, x := range walk(reflect.ValueOf(v), add) {
		l = append(l, uint64(x.Len()))
		walk(x.Slice(0, x.Cap()), add)
	}
	return l
}

// apartAll has all calls done to values with some room behind each list's end, and looks whether they stay, and what is answered shares no memory.
func apartAll(t *testing.T, p api.Proposer, s api.Says, o api.Op, now uint64) {
	t.Helper()
	for _, room := range []int{0, 1, 40} {
		p, s, o := roomy(p, room), roomy(s, room), roomy(o, room)
		was, had, named := wholes(p), wholes(s), wholes(o)
		proposer.Idle(p)
		proposer.Wait(p)
		proposer.Same(p, p)
		a, asks, _ := proposer.Start(p, now, o)
		b, more, decided := proposer.Take(p, now, s)
		c, tries := proposer.Tick(p, now)
		if !slices.Equal(wholes(p), was) || !slices.Equal(wholes(s), had) || !slices.Equal(wholes(o), named) {
			t.Fatalf("%+v, %+v or %+v was changed", p, s, o)
		}
		values := []any{p, s, o, a, b, c}
		for _, x := range slices.Concat(asks, more, tries) {
			values = append(values, x)
		}
		for _, x := range decided {
			values = append(values, x)
		}
		apart(t, values...)
	}
}

// P10.6: what is handed in stays, and the room behind its lists' ends; what is answered shares no memory with it, nor one list of it with another.
func TestMemory(t *testing.T) {
	d := rand.New(rand.NewPCG(10, 3))
	for range 2500 {
		p := drawProposer(d)
		apartAll(t, p, drawSays(d, p), drawOp(d, 4, 1, 1), p.Since+one[uint64](d, 0, 9))
	}
	// Beside an error, too; and of an operation whose lists are not empty.
	p := full()
	o := api.Op{Who: 4, Inc: 1, N: 1, Kind: api.OpForget, Channel: 1, Seen: []api.Mark{{Producer: 1, Seq: 1}}, Frags: []api.Frag{{Bookies: []api.Place{{Node: 1}}}}}
	for phase := range 4 {
		for _, high := range []uint64{1, top} {
			p.Phase, p.High, p.Op = phase, high, o
			apartAll(t, p, says(1, 1, p.Ballot), o, 100)
			o.Frags = nil
		}
	}
}

// P10.6: what is answered is the caller's: what is done to it shows in no later answer.
func TestAnswersAreApart(t *testing.T) {
	spoil := func(x reflect.Value) {
		for _, l := range walk(x, func(v reflect.Value) { set(v, 99) }) {
			walk(l.Slice(0, l.Cap()), func(v reflect.Value) { set(v, 99) })
		}
	}
	d := rand.New(rand.NewPCG(10, 4))
	for range 1000 {
		p := drawProposer(d)
		s, o, now := drawSays(d, p), drawOp(d, 4, 1, 1), p.Since+9
		for range 2 {
			for _, x := range []told{starts(t, p, now, o), takes(t, p, now, s), ticks(t, p, now)} {
				spoil(reflect.ValueOf(&x.p).Elem())
				for i := range x.asks {
					spoil(reflect.ValueOf(&x.asks[i]).Elem())
				}
				for i := range x.decided {
					spoil(reflect.ValueOf(&x.decided[i]).Elem())
				}
			}
		}
	}
}

// R5: what a call answers hangs on nothing but what it is handed.
func TestAgain(t *testing.T) {
	d := rand.New(rand.NewPCG(10, 5))
	for range 500 {
		p := drawAny(d)
		s := drawSays(d, p)
		a, asks, decided := proposer.Take(p, 7, s)
		for range 3 {
			b, others, told := proposer.Take(p, 7, s)
			if !proposer.Same(a, b) || !alike(asks, others) || !alike(decided, told) {
				t.Fatalf("%+v, %+v", p, s)
			}
		}
	}
}

// R1: no arguments have a call panic, or not end; long rows, too.
func TestAnyArguments(t *testing.T) {
	d := rand.New(rand.NewPCG(10, 6))
	for range 3000 {
		var p api.Proposer
		var s api.Says
		var o api.Op
		for range d.IntN(12) {
			p, s, o = altered(d, p), altered(d, s), altered(d, o)
		}
		now := one(d, edges()...)
		starts(t, p, now, o)
		takes(t, p, now, s)
		ticks(t, p, now)
	}
	p := full()
	p.Phase, p.Heard = 1, slices.Repeat([]api.Promise{{From: 2}}, 1<<18)
	p.Metas = math.MaxInt
	if q, asks, _ := proposer.Take(p, 9, says(1, api.SaysPromise, p.Ballot)); q.Phase != 1 || len(q.Heard) != 1<<18+1 || asks != nil {
		t.Errorf("Phase %d, %d heard", q.Phase, len(q.Heard))
	}
	p.Metas = 3
	s := says(1, api.SaysPromise, p.Ballot)
	s.Accepted, s.Value = bal(1, 4, 1), bytes.Repeat([]byte{1}, 1<<20)
	if q, asks, _ := proposer.Take(p, 9, s); q.Phase != 3 || asks != nil {
		t.Errorf("Phase %d", q.Phase)
	}
}
