package bookie_test

import (
	"fmt"
	"math"
	"math/rand/v2"
	"slices"
	"strings"
	"testing"

	"scrivener/api"
	"scrivener/bookie"
	"scrivener/disk"
)

// The examples of the chapter.
func TestExamples(t *testing.T) {
	for _, c := range []struct {
		capacity, hello int
	}{{600, api.RespFull}, {2000, api.RespOk}} {
		d := roomy(t, c.capacity)
		b := opened(t, 4, d)
		if b.Place() != at() {
			t.Errorf("%v", b.Place())
		}
		for i, l := range []struct {
			from []int
			asks []api.Req
			want []api.Resp
		}{
			{[]int{9, 9}, []api.Req{add(1, 1, 2, "ab"), get(1, 1)}, []api.Resp{told(add(1, 1, 2, ""), 0, 0, ""), told(get(1, 1), 0, 0, "ab")}},
			{[]int{8, 9}, []api.Req{fence(1, 3), add(1, 2, 2, "")}, []api.Resp{told(fence(1, 3), 0, 0, ""), told(add(1, 2, 2, ""), 1, 0, "")}},
			{[]int{9, 9, 9}, []api.Req{get(1, 2), of(get(1, 2), 4, 2), hello()}, []api.Resp{told(get(1, 2), 3, 0, ""), told(get(1, 2), 4, 0, ""), told(hello(), c.hello, 0, "")}},
		} {
			for j, r := range l.asks {
				if !b.Take(l.from[j], r) || b.Waits() != j+1 {
					t.Errorf("%d, %d: %d wait", i, j, b.Waits())
				}
			}
			got, e := b.Flush()
			if e != api.OK || len(got) != len(l.want) || b.Waits() != 0 {
				t.Fatalf("%d: %+v, %d", i, got, e)
			}
			for j, want := range l.want {
				if !alike(got[j], api.Given{To: l.from[j], Resp: want}) {
					t.Errorf("%d, %d: %+v, not %+v", i, j, got[j], want)
				}
			}
		}
		if !b.Take(9, add(1, 3, 3, "x")) {
			t.Error("not taken")
		}
		d.Crash(0, 0)
		if got, e := b.Flush(); len(got) > 0 || e != api.ErrDown || b.Waits() != 0 {
			t.Errorf("behind a crash: %+v, %d", got, e)
		}
		d.Start()
		b = opened(t, 4, d)
		if k := b.Keys(); !slices.Equal(k, []api.Key{{Ledger: 1, N: 1}}) || b.Fenced(1) != 3 {
			t.Errorf("anew: %v, %d", k, b.Fenced(1))
		}
	}
}

// refused looks whether Open answers that, and changes nothing.
func refused(t *testing.T, name string, node int, d *disk.Disk, want api.Errno) {
	t.Helper()
	was := files(d)
	if b, e := bookie.Open(node, d); b != nil || e != want {
		t.Errorf("%s: Open(%d): %v, %d, not %d", name, node, b, e, want)
	}
	if files(d) != was {
		t.Errorf("%s: the disk was changed: %s, not %s", name, files(d), was)
	}
}

// P13.1: which nodes there are; that goes ahead of all else.
func TestOpenNodes(t *testing.T) {
	down := roomy(t, 900)
	down.Crash(0, 0)
	torn := roomy(t, 900)
	torn.Append("log", []byte("torn"))
	torn.Append("log.new", []byte("new"))
	for _, node := range []int{0, -1, 16, 17, 1<<32 + 1, math.MinInt, math.MaxInt} {
		refused(t, "a disk", node, roomy(t, 900), api.ErrArg)
		refused(t, "no disk", node, nil, api.ErrArg)
		refused(t, "one that is down", node, down, api.ErrArg)
		refused(t, "a torn one", node, torn, api.ErrArg)
		refused(t, "a spoilt one", node, with(t, 900, record([]byte("none"))), api.ErrArg)
	}
	for node := 1; node <= 15; node++ {
		for serial := uint64(1); serial < 4; serial++ {
			d := with(t, 900, fenceOf(3, 5))
			for range serial - 1 {
				d.Wipe()
			}
			if b := opened(t, node, d); b.Place() != (api.Place{Node: node, Serial: serial}) || b.Waits() != 0 {
				t.Errorf("%d, %d: %v, %d wait", node, serial, b.Place(), b.Waits())
			}
		}
	}
}

// P13.1: the store's errors; beside them the disk stays.
func TestOpenErrors(t *testing.T) {
	refused(t, "none", 4, nil, api.ErrDown)
	refused(t, "a zero one", 4, &disk.Disk{}, api.ErrDown)
	copied := *roomy(t, 900)
	refused(t, "a copied one", 4, &copied, api.ErrDown)
	for name, payload := range map[string][]byte{
		"none": {}, "text": []byte("none"), "another kind": short(4, 1, 1), "of no ledger": short(2, 0, 1), "an entry's beginning": short(1, 1, 1),
	} {
		d := with(t, 900, fenceOf(1, 1), record(payload))
		d.Append("log.new", []byte("new"))
		refused(t, name, 4, d, api.ErrForm)
		d.Crash(1, 0)
		refused(t, name+", down", 4, d, api.ErrDown)
	}
}

// P13.1: the store is opened: what is torn goes, as what was to take the log's place, and all is synced; it tells what the log has.
func TestOpenStore(t *testing.T) {
	d := with(t, 900, floorOf(3, 1), entryOf(1, 2, 4, "two"), entryOf(1, 1, 3, "one"), fenceOf(1, 7), fenceOf(9, 2), fenceOf(1, 6))
	size := d.Size("log")
	d.Append("log", []byte("torn"))
	d.Append("log.new", []byte("new"))
	d.Append("other", []byte("x"))
	x := on(t, d)
	if d.Waits() != 0 || d.Size("log") != size || !slices.Equal(d.Names(), []string{"log", "other"}) {
		t.Errorf("%s", files(d))
	}
	if k := x.b.Keys(); !slices.Equal(k, []api.Key{{Ledger: 1, N: 1}, {Ledger: 1, N: 2}}) || x.b.Fenced(1) != 7 || x.b.Fenced(9) != 2 || x.b.Fenced(2) != 0 {
		t.Errorf("%v, %d, %d", k, x.b.Fenced(1), x.b.Fenced(9))
	}
	if b, ok := x.b.Get(api.Key{Ledger: 1, N: 2}); string(b) != "two" || !ok {
		t.Errorf("%q, %v", b, ok)
	}
	x.answers("one that is there", get(1, 1), 0, 4, "one")
	x.answers("of a dead ledger", fence(2, 1), 1, 0, "")
}

// kinds tells what may be asked, one of each kind.
func kinds() []api.Req {
	return []api.Req{add(1, 1, 2, "ab"), fence(1, 3), get(1, 1), free(2), hello()}
}

// P13.2: who may ask.
func TestFrom(t *testing.T) {
	x := on(t, with(t, 2000, entryOf(1, 9, 3, "x")))
	for _, r := range kinds() {
		for _, from := range []int{0, -1, 16, 17, 1<<32 + 1, math.MinInt, math.MaxInt} {
			if x.take("from", from, r) {
				t.Errorf("from %d", from)
			}
		}
	}
	for from := 1; from <= 15; from++ {
		if !x.take("from", from, get(1, 9)) {
			t.Errorf("from %d", from)
		}
	}
	for i, g := range x.flush("from") {
		if g.To != i+1 {
			t.Errorf("%d: to %d", i, g.To)
		}
	}
}

// P13.2: which kinds there are.
func TestKinds(t *testing.T) {
	for _, kind := range []int{math.MinInt, -5, -1, 0, 1, 2, 3, 4, 5, 6, 7, 1<<32 + 1, 1 << 33, math.MaxInt} {
		for _, r := range []api.Req{add(1, 1, 2, "ab"), of(add(1, 1, 2, "ab"), 4, 2), of(hello(), 0, 0)} {
			r.Kind = kind
			want := kind == 5 || kind >= 1 && kind <= 4 && (r.Ledger > 0 || kind == 4)
			x := on(t, roomy(t, 2000))
			if x.take("a kind", 9, r) != want {
				t.Errorf("kind %d: %v", kind, !want)
			}
			x.flush("a kind")
		}
	}
}

// P13.2: what may not be asked, and what may just be; also where another place is meant.
func TestMayBe(t *testing.T) {
	long := func(n int) string { return strings.Repeat("x", n) }
	keep := func(n int) api.Req { return free(5, make([]uint64, n)...) }
	for name, c := range map[string]struct {
		ask api.Req
		may bool
	}{
		"an add of ledger 0":           {add(0, 1, 1, "a"), false},
		"an add of ledger 1":           {add(1, 1, 1, "a"), true},
		"an add of the last ledger":    {add(top, 1, 1, "a"), true},
		"an add behind the last one":   {add(top+1, 1, 1, "a"), false},
		"an add far behind":            {add(1<<64-1, 1, 1, "a"), false},
		"an add of entry 0":            {add(1, 0, 1, "a"), false},
		"an add of the last entry":     {add(1, top, 1, "a"), true},
		"an add behind the last entry": {add(1, top+1, 1, "a"), false},
		"an add of entries far behind": {add(1, 1<<64-1, 1, "a"), false},
		"an add of epoch 0":            {add(1, 1, 0, "a"), true},
		"an add of the last epoch":     {add(1, 1, top, "a"), true},
		"an add behind the last epoch": {add(1, 1, top+1, "a"), false},
		"an add of an epoch far off":   {add(1, 1, 1<<64-1, "a"), false},
		"an add, sure up to the last":  {sure(add(1, 1, 1, "a"), top), true},
		"an add, sure beyond that":     {sure(add(1, 1, 1, "a"), top+1), false},
		"an add, sure far beyond":      {sure(add(1, 1, 1, "a"), 1<<64-1), false},
		"an add, sure of itself":       {sure(add(1, 1, 1, "a"), 1), true},
		"an add, sure of what follows": {sure(add(1, 1, 1, "a"), 9), true},
		"an add without bytes":         {add(1, 1, 1, ""), true},
		"an add of 200 bytes":          {add(1, 1, 1, long(200)), true},
		"an add of 201 bytes":          {add(1, 1, 1, long(201)), false},
		"an add of 20000 bytes":        {add(1, 1, 1, long(20000)), false},
		"a copy of 201 bytes":          {copied(add(1, 1, 1, long(201)), 1), false},
		"a copy of ledger 0":           {copied(add(0, 1, 1, "a"), 1), false},
		"a copy of epoch 0":            {copied(add(1, 1, 0, "a"), 1), true},
		"a copy behind the last epoch": {copied(add(1, 1, top+1, "a"), 1), false},
		"a copy of another sort":       {copied(add(1, 1, 1, "a"), math.MinInt), true},
		"a fence of ledger 0":          {fence(0, 1), false},
		"a fence of the last ledger":   {fence(top, 1), true},
		"a fence behind that":          {fence(top+1, 1), false},
		"a fence far behind that":      {fence(1<<64-1, 1), false},
		"a fence of epoch 0":           {fence(1, 0), false},
		"a fence of the last epoch":    {fence(1, top), true},
		"a fence behind the last":      {fence(1, top+1), false},
		"a fence far behind the last":  {fence(1, 1<<64-1), false},
		"a fence of the last of both":  {fence(top, top), true},
		"a get of ledger 0":            {get(0, 1), false},
		"a get of the last ledger":     {get(top, 1), true},
		"a get behind that":            {get(top+1, 1), false},
		"a get of entry 0":             {get(1, 0), false},
		"a get of the last entry":      {get(1, top), true},
		"a get behind the last entry":  {get(1, top+1), false},
		"a free of 0":                  {free(0), true},
		"a free of all":                {free(1<<64 - 1), true},
		"a free that keeps 64":         {keep(64), true},
		"a free that keeps 65":         {keep(65), false},
		"a free that keeps 1000":       {keep(1000), false},
		"a hello":                      {hello(), true},
	} {
		for _, place := range []api.Place{at(), {Node: 4, Serial: 2}, {}} {
			x := on(t, roomy(t, 2000))
			c.ask.To = place
			if got := x.take(name, 9, c.ask); got != c.may {
				t.Errorf("%s: %v", name, got)
			}
			if got := x.flush(name); len(got) != 0 != c.may {
				t.Errorf("%s: %+v", name, got)
			}
		}
	}
}

// P13.2: what a kind does not name may be anything; of that Ledger, N and Epoch are told back.
func TestUnnamed(t *testing.T) {
	full := func(r api.Req) api.Req {
		r.Sure, r.Copy, r.Body, r.Keep = 1<<64-1, math.MinInt, make([]byte, 300), make([]uint64, 100)
		return r
	}
	odd := []uint64{0, top + 1, 1<<64 - 1}
	for _, n := range odd {
		x := on(t, with(t, 2000, entryOf(1, 1, 6, "ab")))
		r := full(get(1, 1))
		r.Epoch = n
		x.answers("a get", r, 0, 6, "ab")
		r = full(fence(1, 3))
		r.N = n
		x.answers("a fence", r, 0, 6, "")
		r = full(of(hello(), 0, n))
		r.Ledger, r.N, r.Epoch = n, n, n
		x.answers("a hello", r, 0, 0, "")
		r = full(free(1))
		r.Ledger, r.Epoch, r.Keep = n, n, nil
		x.answers("a free", r, 0, 0, "")
		r = add(2, 2, 2, "x")
		r.Keep = make([]uint64, 100)
		x.answers("an add", r, 0, 0, "")
	}
}

// P13.2: how many answers wait: one more is not taken, whatever it is; and nothing is done.
func TestWaits(t *testing.T) {
	x := on(t, with(t, 9000, entryOf(1, 9, 3, "x")))
	for round := range uint64(3) {
		for n := range uint64(64) {
			r := []api.Req{get(1, 9), add(2+round, 1+n, 1, "y"), fence(2+round, 1+n), hello(), of(get(1, 9), 5, 1), free(0)}[n%6]
			if !x.take("one more", 1+int(n%15), r) || x.b.Waits() != int(n)+1 {
				t.Fatalf("%d: %d wait", n, x.b.Waits())
			}
		}
		for _, r := range append(kinds(), add(9, 9, 9, "z"), fence(9, 9), of(get(1, 9), 5, 1), free(9)) {
			if x.take("one too many", 9, r) || x.b.Waits() != 64 {
				t.Fatalf("%+v: %d wait", r, x.b.Waits())
			}
		}
		if got := x.flush("all"); len(got) != 64 {
			t.Fatal(len(got))
		}
	}
}

// P13.2: another place is meant: nothing is done, and nothing is told; but of a hello its place.
func TestStrange(t *testing.T) {
	for _, to := range []api.Place{{}, {Node: 4}, {Node: 4, Serial: 2}, {Node: 5, Serial: 1}, {Serial: 1}, {Node: -4, Serial: 1}, {Node: 4, Serial: 1<<64 - 1}, {Node: 1<<32 + 4, Serial: 1}} {
		x := on(t, with(t, 3000, entryOf(1, 1, 6, "ab"), fenceOf(1, 2)))
		for _, r := range []api.Req{add(1, 2, 9, "new"), add(1, 1, 9, "ab"), copied(add(1, 1, 9, "c"), 1), add(1, 1, 1, "ab"), fence(1, 3), get(1, 1), get(1, 2), free(2)} {
			r = of(r, to.Node, to.Serial)
			x.answers("strange", r, 4, 0, "")
			if x.b.Fenced(1) != 2 || len(x.b.Keys()) != 1 {
				t.Errorf("%+v: it is done", r)
			}
		}
		x.answers("hello", of(hello(), to.Node, to.Serial), 0, 0, "")
	}
	// The disk that was lost is another place than the one that there is.
	d := with(t, 3000, entryOf(1, 1, 6, "ab"))
	d.Wipe()
	x := on(t, d)
	if got := x.take("lost", 9, get(1, 1)); !got {
		t.Error(got)
	}
	x.take("there", 9, of(add(1, 1, 1, "c"), 4, 2))
	got := x.flush("both")
	if len(got) != 2 || got[0].Resp.Code != 4 || got[1].Resp.Code != 0 || got[0].Resp.From != (api.Place{Node: 4, Serial: 2}) || got[1].Resp.From != got[0].Resp.From {
		t.Errorf("%+v", got)
	}
}

// P13.2: adds: which epochs a fence refuses; entries that are there; copies.
func TestAdd(t *testing.T) {
	x := on(t, roomy(t, 9000))
	x.answers("new", add(1, 1, 2, "ab"), 0, 0, "")
	x.answers("there", add(1, 1, 2, "ab"), 0, 0, "")
	x.answers("there, of another epoch", add(1, 1, 0, "ab"), 0, 0, "")
	x.answers("other bytes", add(1, 1, 9, "ac"), 3, 0, "")
	x.answers("fewer bytes", add(1, 1, 9, "a"), 3, 0, "")
	x.answers("no bytes", add(1, 1, 9, ""), 3, 0, "")
	x.answers("without bytes", add(1, 2, 9, ""), 0, 0, "")
	x.answers("what is there", get(1, 1), 0, 0, "ab")
	x.answers("fenced", fence(1, 5), 0, 0, "")
	for epoch := range uint64(9) {
		code := 0
		if epoch < 5 {
			code = 1
		}
		x.answers("of an epoch", add(1, 10+epoch, epoch, "x"), code, 0, "")
		if _, ok := x.b.Get(api.Key{Ledger: 1, N: 10 + epoch}); ok != (code == 0) {
			t.Errorf("epoch %d: %v", epoch, ok)
		}
		x.answers("there, of an epoch", add(1, 1, epoch, "ab"), code, 0, "")
		other := 3
		if epoch < 5 {
			other = 1
		}
		x.answers("other bytes, of an epoch", add(1, 1, epoch, "c"), other, 0, "")
		x.answers("another ledger", add(2, 10+epoch, epoch, "x"), 0, 0, "")
		x.answers("a copy", copied(add(1, 30+epoch, epoch, "x"), 1), 0, 0, "")
		x.answers("a copy of what is there", copied(add(1, 1, epoch, "ab"), 1), 0, 0, "")
		x.answers("a copy of other bytes", copied(add(1, 1, epoch, "c"), 1), 3, 0, "")
		for _, n := range []int{0, -1, 2, 3, 1<<32 + 1, math.MinInt} {
			x.answers("no copy", copied(add(1, 10+epoch, epoch, "x"), n), code, 0, "")
		}
	}
}

// P13.2: the fence of the last epoch, and none.
func TestAddEpochs(t *testing.T) {
	x := on(t, roomy(t, 9000))
	x.answers("no fence", add(1, 1, 0, "x"), 0, 0, "")
	x.answers("the least fence", fence(1, 1), 0, 0, "")
	x.answers("below it", add(1, 2, 0, "x"), 1, 0, "")
	x.answers("at it", add(1, 3, 1, "x"), 0, 0, "")
	x.answers("the last fence", fence(1, top), 0, 0, "")
	x.answers("below it", add(1, 4, top-1, "x"), 1, 0, "")
	x.answers("at it", add(1, 5, top, "x"), 0, 0, "")
}

// P13.2: what is told of a ledger's lac: the highest one that entries came with, of fences and gets alone.
func TestLac(t *testing.T) {
	x := on(t, roomy(t, 9000))
	x.answers("none", get(1, 1), 3, 0, "")
	x.answers("none", fence(1, 1), 0, 0, "")
	x.answers("an add", sure(add(1, 3, 2, "x"), 2), 0, 0, "")
	x.answers("there", get(1, 3), 0, 2, "x")
	x.answers("not there", get(1, 4), 3, 2, "")
	x.answers("fenced", fence(1, 2), 0, 2, "")
	x.answers("there already: its lac stays", sure(add(1, 3, 2, "x"), 9), 0, 0, "")
	x.answers("fenced off", sure(add(1, 5, 1, "x"), 9), 1, 0, "")
	x.answers("other bytes", sure(add(1, 3, 2, "y"), 9), 3, 0, "")
	x.answers("as it was", get(1, 3), 0, 2, "x")
	x.answers("higher", sure(add(1, 4, 2, "y"), 7), 0, 0, "")
	x.answers("lower", sure(add(1, 5, 2, "z"), 0), 0, 0, "")
	x.answers("the highest", get(1, 3), 0, 7, "x")
	x.answers("the highest", get(1, 9), 3, 7, "")
	x.answers("the highest", fence(1, 1), 0, 7, "")
	x.answers("a copy", copied(sure(add(1, 8, 0, "z"), top), 1), 0, 0, "")
	x.answers("the last", fence(1, 3), 0, top, "")
	x.answers("of another ledger", fence(2, 3), 0, 0, "")
	x.answers("hello", hello(), 0, 0, "")
}

// P13.2: the ledgers that are freed, and what is answered of dead ones.
func TestFree(t *testing.T) {
	x := on(t, with(t, 9000, entryOf(1, 1, 4, "a"), entryOf(2, 1, 5, "b"), entryOf(3, 1, 6, "c"), fenceOf(1, 2), fenceOf(3, 2), fenceOf(4, 2)))
	x.answers("none", free(1), 0, 0, "")
	x.answers("all are kept", free(5, 4, 3, 2, 1), 0, 0, "")
	if len(x.b.Keys()) != 3 || x.b.Fenced(1) != 2 {
		t.Errorf("%v", x.b.Keys())
	}
	x.answers("some", free(4, 2, 9), 0, 0, "")
	if !slices.Equal(x.b.Keys(), []api.Key{{Ledger: 2, N: 1}}) || x.b.Fenced(1) != 0 || x.b.Fenced(3) != 0 || x.b.Fenced(4) != 2 {
		t.Errorf("%v", x.b.Keys())
	}
	for _, l := range []uint64{1, 3} {
		x.answers("dead", add(l, 1, 9, "a"), 1, 0, "")
		x.answers("dead, new", add(l, 7, top, "a"), 1, 0, "")
		x.answers("dead, a copy", copied(add(l, 1, 9, "a"), 1), 1, 0, "")
		x.answers("dead", fence(l, 9), 1, 0, "")
		x.answers("dead", get(l, 1), 3, 0, "")
	}
	x.answers("kept", get(2, 1), 0, 5, "b")
	x.answers("kept", add(2, 2, 0, "d"), 0, 0, "")
	x.answers("behind", add(4, 1, 2, "d"), 0, 0, "")
	x.answers("by no number", free(1<<64-1, 4), 0, 0, "")
	x.answers("dead", fence(2, 9), 1, 0, "")
	x.answers("dead for ever", add(top, 1, 9, "x"), 1, 0, "")
	x.answers("kept", fence(4, 9), 0, 0, "")
	x.crash(0, 0)
	x.answers("dead for ever", add(top, 1, 9, "x"), 1, 0, "")
}

// P13.2: how many are kept: each of 64 counts.
func TestFreeKeeps(t *testing.T) {
	var keep []uint64
	var log [][]byte
	for l := range uint64(64) {
		keep, log = append(keep, 64-l), append(log, fenceOf(l+1, 1))
	}
	x := on(t, with(t, 9000, append(log, fenceOf(65, 1))...))
	x.answers("64", free(100, keep...), 0, 0, "")
	for l := range uint64(66) {
		if want := l >= 1 && l <= 64; x.b.Fenced(l) > 0 != want {
			t.Errorf("ledger %d: %v", l, !want)
		}
	}
}

// P13.2: a disk that is full: of adds, fences, frees; what is refused is not done, and what is there already is OK.
func TestFull(t *testing.T) {
	// A third of 120 is 40, a half 60: an entry of three bytes has 16, a fence 11.
	x := on(t, roomy(t, 120))
	x.answers("an add", add(1, 1, 1, "xyz"), 0, 0, "")
	x.answers("an add", sure(add(1, 2, 1, "xyz"), 1), 0, 0, "")
	x.answers("an add too many", add(1, 3, 1, "xyz"), 2, 0, "")
	x.answers("a copy too many", copied(add(1, 3, 1, "xyz"), 1), 2, 0, "")
	x.answers("there", add(1, 1, 1, "xyz"), 0, 0, "")
	x.answers("other bytes", add(1, 1, 1, "xyy"), 3, 0, "")
	x.answers("a fence", fence(1, 2), 0, 1, "")
	x.answers("fenced off, ahead of full", add(1, 3, 1, "xyz"), 1, 0, "")
	x.answers("full", add(1, 3, 2, "xyz"), 2, 0, "")
	x.answers("a fence", fence(2, 2), 0, 0, "")
	x.answers("a fence too many", fence(1, 3), 2, 1, "")
	x.answers("there", fence(1, 2), 0, 1, "")
	x.answers("lower", fence(1, 1), 0, 1, "")
	x.answers("a get", get(1, 2), 0, 1, "xyz")
	x.answers("hello", hello(), 2, 0, "")
	if x.b.Fenced(1) != 2 || len(x.b.Keys()) != 2 {
		t.Errorf("%d, %v", x.b.Fenced(1), x.b.Keys())
	}
	// No room for the new log beside the old one: others have it.
	x.d.Append("other", make([]byte, 60))
	x.m.disk.Append("other", make([]byte, 60))
	x.answers("a free", free(2), 2, 0, "")
	x.answers("a free of none", free(1), 0, 0, "")
	x.answers("a free of all but", free(3, 1, 2), 0, 0, "")
	x.answers("not freed", get(1, 2), 0, 1, "xyz")
	x.d.Remove("other")
	x.m.disk.Remove("other")
	x.answers("a free", free(2), 0, 0, "")
	x.answers("freed", get(1, 2), 3, 0, "")
	x.answers("room again", add(2, 3, 2, ""), 0, 0, "")
}

// P13.2: a hello tells whether there is room for 240 bytes more, up to a third.
func TestHello(t *testing.T) {
	for _, log := range [][]byte{nil, fenceOf(1, 1), entryOf(1, 1, 0, strings.Repeat("x", 100))} {
		for capacity := 3 * len(log); capacity < 3*len(log)+760; capacity++ {
			code := 0
			if capacity/3-len(log) < 240 {
				code = 2
			}
			x := on(t, with(t, capacity, log))
			x.answers(fmt.Sprint(len(log), capacity), hello(), code, 0, "")
		}
	}
	// Where there is room for an entry, as long as one may be, with the widest numbers: hello says so ahead.
	x := on(t, roomy(t, 720))
	x.answers("room", hello(), 0, 0, "")
	x.answers("it is", sure(add(top, top, 0, strings.Repeat("x", 200)), top), 0, 0, "")
	x.answers("no room", hello(), 2, 0, "")
	// A log above a third, by fences: no room, not less than none.
	x = on(t, with(t, 90, fenceOf(1, 1), fenceOf(1, 2), fenceOf(1, 3)))
	x.answers("no room", hello(), 2, 0, "")
}

// P13.3: answers are told in order, once, each to who asked; none of them ahead of the sync.
func TestFlush(t *testing.T) {
	x := on(t, roomy(t, 9000))
	for range 3 {
		if got := x.flush("none"); len(got) > 0 {
			t.Errorf("%+v", got)
		}
	}
	x.d.Append("other", nil)
	x.m.disk.Append("other", nil)
	x.flush("nothing was asked, but the disk is synced")
	if x.d.Waits() != 0 {
		t.Error(x.d.Waits())
	}
	asks := []api.Req{add(3, 1, 1, "a"), add(3, 1, 1, "a"), get(3, 1), fence(3, 2), add(3, 2, 1, "b"), hello(), get(3, 2), free(4), get(3, 1), of(get(3, 1), 1, 1), add(3, 1, 3, "a")}
	codes := []int{0, 0, 0, 0, 1, 0, 3, 0, 3, 4, 1}
	for i, r := range asks {
		x.take("in order", 15-i, r)
	}
	if x.d.Waits() == 0 {
		t.Error("synced ahead of Flush")
	}
	got := x.flush("in order")
	for i, r := range asks {
		if a := got[i]; a.To != 15-i || a.Resp.Kind != r.Kind || a.Resp.Code != codes[i] || a.Resp.From != at() {
			t.Errorf("%d: %+v", i, a)
		}
	}
	if x.d.Waits() != 0 {
		t.Error("not synced")
	}
	if got := x.flush("none"); len(got) > 0 {
		t.Errorf("told again: %+v", got)
	}
}

// P13.1 to P13.3: whatever is asked: what the words say, behind crashes, too.
func TestDrawn(t *testing.T) {
	r := rand.New(rand.NewPCG(13, 1))
	seen := map[[2]int]int{}
	refused := 0
	for range 400 {
		x := on(t, roomy(t, one(r, 30, 90, 300, 900, 2000)))
		x.m.node = 1 + r.IntN(15)
		x.reopen()
		if r.IntN(4) == 0 {
			n := r.IntN(x.d.Capacity() + 1)
			x.d.Append("other", make([]byte, n))
			x.m.disk.Append("other", make([]byte, n))
		}
		for range 150 {
			a := drawReq(r, 6)
			if a.To == at() {
				a.To = x.b.Place()
			}
			if r.IntN(6) == 0 {
				a = spoilt(r, a)
			}
			from := 1 + r.IntN(15)
			if r.IntN(30) == 0 {
				from = one(r, -1, 0, 16, 17)
			}
			if !x.take("drawn", from, a) {
				refused++
			}
			switch {
			case r.IntN(15) == 0:
				for _, g := range x.flush("drawn") {
					seen[[2]int{g.Resp.Kind, g.Resp.Code}]++
				}
			case r.IntN(40) == 0:
				x.crash(r.IntN(x.d.Waits()+2), r.IntN(30))
			case r.IntN(400) == 0:
				x.d.Wipe()
				x.m.disk.Wipe()
				x.reopen()
			}
		}
	}
	for _, c := range [][2]int{
		{1, 0}, {1, 1}, {1, 2}, {1, 3}, {1, 4}, {2, 0}, {2, 1}, {2, 2}, {2, 4}, {3, 0}, {3, 3}, {3, 4}, {4, 0}, {4, 2}, {4, 4}, {5, 0}, {5, 2},
	} {
		if seen[c] < 10 {
			t.Errorf("%v comes %d times", c, seen[c])
		}
	}
	if len(seen) != 17 || refused < 1000 {
		t.Errorf("%v, %d", seen, refused)
	}
}
