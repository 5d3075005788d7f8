package ops_test

import (
	"math/rand/v2"
	"reflect"
	"slices"
	"testing"

	"scrivener/api"
	"scrivener/ops"
)

// P8.3: the same operation, of any operation.
func TestOwn(t *testing.T) {
	d := rand.New(rand.NewPCG(8, 10))
	l := []api.Op{{}, {Frags: []api.Frag{}, Seen: []api.Mark{}}}
	for kind := 1; kind <= 12; kind++ {
		l = append(l, good(kind))
	}
	for range 1000 {
		o := drawOp(d, drawPlan(d))
		l = append(l, o, altered(d, o), altered(d, altered(d, o)))
	}
	for _, o := range l {
		x := ops.Own(o)
		if !alike(x, o) {
			t.Fatalf("%+v, not %+v", x, o)
		}
	}
}

// P8.3: two operations are the same if each field is, a list by what stands in it.
func TestSame(t *testing.T) {
	same := func(want bool, a, b api.Op) {
		t.Helper()
		if ops.Same(a, b) != want || ops.Same(b, a) != want {
			t.Fatalf("%+v, %+v: not %v", a, b, want)
		}
	}
	full := api.Op{Who: 1, Inc: 2, N: 3, Kind: 4, Channel: 5, Epoch: 6, Ledger: 7, At: 8, Now: 9, Sub: 10, W: 11, A: 12,
		Frags: []api.Frag{frag(1, 7, 8), frag(2, 9)}, Seen: []api.Mark{{Producer: 1, Seq: 2, Offset: 3}, {Producer: 4, Seq: 5, Offset: 6}},
		From: api.Place{Node: 13, Serial: 14}, To: api.Place{Node: 15, Serial: 16}}
	same(true, full, twin(full))
	same(true, api.Op{}, api.Op{Frags: []api.Frag{}, Seen: []api.Mark{}})
	same(true, api.Op{Frags: []api.Frag{{}}}, api.Op{Frags: []api.Frag{{Bookies: []api.Place{}}}})
	same(false, api.Op{Frags: []api.Frag{{}}}, api.Op{})
	same(false, api.Op{Seen: []api.Mark{{}}}, api.Op{})
	n := 0
	walk(reflect.ValueOf(&full).Elem(), func(reflect.Value) { n++ })
	for i := range n {
		for _, x := range []uint64{0, 77, 1 << 32, 1 << 63} {
			o, k := twin(full), 0
			walk(reflect.ValueOf(&o).Elem(), func(v reflect.Value) {
				if k == i {
					set(v, x)
				}
				k++
			})
			same(false, full, o)
		}
	}
	for i := range walk(reflect.ValueOf(full), func(reflect.Value) {}) {
		o := twin(full)
		l := walk(reflect.ValueOf(&o).Elem(), func(reflect.Value) {})[i]
		l.Set(l.Slice(0, l.Len()-1))
		same(false, full, o)
	}
	d := rand.New(rand.NewPCG(8, 11))
	for range 3000 {
		a := drawOp(d, drawPlan(d))
		b := altered(d, a)
		same(alike(a, b), a, b)
		same(true, b, twin(b))
	}
}

// spans tells where lists of values stand, with the room behind their ends.
func spans(values ...any) [][2]uintptr {
	var l [][2]uintptr
	for _, v := range values {
		for _, x := range walk(reflect.ValueOf(v), func(reflect.Value) {}) {
			if size := uintptr(x.Cap()) * x.Type().Elem().Size(); size > 0 {
				l = append(l, [2]uintptr{x.Pointer(), x.Pointer() + size})
			}
		}
	}
	slices.SortFunc(l, func(a, b [2]uintptr) int { return int(a[0]) - int(b[0]) })
	return l
}

// apart looks whether no two lists of values have memory in common.
func apart(t *testing.T, values ...any) {
	t.Helper()
	l := spans(values...)
	for i := 1; i < len(l); i++ {
		if l[i][0] < l[i-1][1] {
			t.Fatalf("memory in common: %+v", values)
		}
	}
}

// wholes tells all numbers of a value, those in the room behind lists' ends, too.
func wholes(v any) []uint64 {
	var l []uint64
	add := func(x reflect.Value) {
		if x.CanInt() {
			l = append(l, uint64(x.Int()))
		} else {
			l = append(l, x.Uint())
		}
	}
	for _, x := range walk(reflect.ValueOf(v), add) {
		l = append(l, uint64(x.Len()))
		walk(x.Slice(0, x.Cap()), add)
	}
	return l
}

// P8.4: what is handed in stays, and the room behind its lists' ends; what is answered shares no memory with it, nor one list of it with another.
func TestMemory(t *testing.T) {
	d := rand.New(rand.NewPCG(8, 12))
	try := func(p api.Plan, o api.Op) {
		t.Helper()
		for _, room := range []int{0, 1, 5} {
			p, o := roomy(p, room), roomy(o, room)
			was, had := wholes(p), wholes(o)
			ops.May(o)
			ops.Stale(p, o)
			ops.Same(o, o)
			own := ops.Own(o)
			q, _ := ops.Apply(p, o)
			if !slices.Equal(wholes(p), was) || !slices.Equal(wholes(o), had) {
				t.Fatalf("%+v or %+v was changed", p, o)
			}
			apart(t, p, o, own, q)
		}
	}
	for kind := 1; kind <= 12; kind++ {
		p := base()
		if kind == api.OpLedger {
			shut(&p)
		}
		try(p, good(kind))
		try(api.Plan{}, good(kind))
		if _, came := ops.Apply(p, good(kind)); came.Code != api.OK {
			t.Errorf("kind %d: %+v", kind, came)
		}
	}
	for range 400 {
		p := drawPlan(d)
		o := drawOp(d, p)
		try(p, o)
		try(altered(d, p), o)
		try(p, altered(d, o))
	}
}

// P8.4: what is answered is the caller's: what is done to it shows in no later answer.
func TestAnswersAreApart(t *testing.T) {
	for kind := 1; kind <= 12; kind++ {
		p, o := base(), good(kind)
		if kind == api.OpLedger {
			shut(&p)
		}
		q, _ := ops.Apply(p, o)
		was := twin(q)
		for _, x := range walk(reflect.ValueOf(&q).Elem(), func(v reflect.Value) { set(v, 99) }) {
			walk(x.Slice(0, x.Cap()), func(v reflect.Value) { set(v, 99) })
		}
		if r, _ := ops.Apply(p, o); !alike(r, was) {
			t.Errorf("kind %d: %+v, not %+v", kind, r, was)
		}
	}
}

// R1: no arguments have a call panic, or not end; a long row, too.
func TestAnyArguments(t *testing.T) {
	d := rand.New(rand.NewPCG(8, 13))
	for range 1000 {
		p, o := drawPlan(d), api.Op{}
		for range d.IntN(12) {
			o, p = altered(d, o), altered(d, p)
		}
		ops.May(o)
		ops.Stale(p, o)
		if q, came := ops.Apply(p, o); came.Code == api.ErrArg && q.Version == p.Version && !alike(p, q) {
			t.Fatalf("%+v, %+v: %+v", p, o, q)
		}
	}
	o := good(api.OpClose)
	o.Frags = slices.Repeat(frags(1), 1<<17)
	if _, came := ops.Apply(base(), o); came.Code != api.ErrState {
		t.Errorf("%+v", came)
	}
	o = good(api.OpForget)
	o.Seen = make([]api.Mark, 1<<17)
	if ops.May(o) {
		t.Error("so many marks")
	}
}
