package broker_test

import (
	"testing"

	"scrivener/api"
	"scrivener/plan"
)

// told looks which places the broker tells as those that could be written.
func (s *scene) told(want ...api.Place) {
	s.t.Helper()
	if got := s.b.Tell().Known; !alike(got, want) {
		s.t.Fatalf("it tells %+v, not %+v", got, want)
	}
}

// knows looks which places the broker knows, by whom it says hello to at its first Tick; it stays as it is.
func (s *scene) knows(want ...api.Place) {
	s.t.Helper()
	if got := s.b.Copy().Tick(s.now).Reqs; !alike(kind(got, api.ReqHello), hellos(want...)) {
		s.t.Fatalf("%+v, not to %+v", got, want)
	}
}

// P22.4: what a bookie of the crew tells of itself is its place, whatever it was; it can be written if that is RespOk.
func TestHello(t *testing.T) {
	s := newScene(t, 1)
	s.told()
	s.knows(at(2, 0), at(3, 0))
	is(t, s.take(5, hello(at(3, 1), api.RespOk)), api.Sends{})
	s.told(at(3, 1))
	s.knows(at(2, 0), at(3, 1))
	is(t, s.take(5, hello(at(2, 7), api.RespOk)), api.Sends{})
	s.told(at(2, 7), at(3, 1)) // in the order of the crew's bookies
	for _, code := range []int{api.RespFull, api.RespFenced, api.RespNone, api.RespStrange, 5, -1} {
		is(t, s.take(5, hello(at(3, 2), code)), api.Sends{})
		s.told(at(2, 7))
		s.knows(at(2, 7), at(3, 2))
		s.take(5, hello(at(3, 1), api.RespOk)) // a lesser serial, too
		s.told(at(2, 7), at(3, 1))
	}
	s.take(5, hello(at(2, 0), api.RespOk))
	s.told(at(2, 0), at(3, 1))
	s.take(5, hello(at(2, top+9), api.RespOk))
	s.told(at(2, top+9), at(3, 1))
	for _, node := range []int{4, 1, 0, -2, 15, 16} {
		is(t, s.take(5, hello(at(node, 1), api.RespOk)), api.Sends{})
		s.told(at(2, top+9), at(3, 1))
		s.knows(at(2, top+9), at(3, 1))
	}
}

// P22.4: a crew's bookies are told in the crew's order.
func TestHelloOrder(t *testing.T) {
	c := crew(1)
	c.Bookies = []int{9, 2, 15, 4, 7}
	s := &scene{pair: newPair(t, c, 5), meta: rule{node: 1}, now: 5}
	s.greeted(at(2, 1), at(4, 2), at(7, 3), at(9, 4), at(15, 5))
	want := []api.Place{at(9, 4), at(2, 1), at(15, 5), at(4, 2), at(7, 3)}
	s.told(want...)
	s.knows(want...)
}

// P22.4: of another disk than was meant the greater serial is its place, as long as it told of one; whether and when it could be written stays.
func TestStrange(t *testing.T) {
	s := newScene(t, 1)
	strange := func(kind int, place api.Place) {
		t.Helper()
		is(t, s.take(s.now, api.Resp{From: place, Kind: kind, Code: api.RespStrange, Ledger: 1, N: 1}), api.Sends{})
	}
	strange(api.ReqAdd, at(2, 3)) // nothing is known of it
	s.told()
	s.knows(at(2, 0), at(3, 0))
	s.greeted(at(2, 3))
	s.take(5, hello(at(3, 3), api.RespFull))
	for _, serial := range []uint64{0, 2, 3} {
		strange(api.ReqAdd, at(2, serial))
		s.told(at(2, 3))
	}
	for i, kind := range []int{api.ReqAdd, api.ReqFence, api.ReqGet, api.ReqFree, 0, 6, -1} {
		is(t, s.take(5, api.Resp{From: at(2, 99), Kind: kind, Ledger: 1, N: 1}), api.Sends{}) // RespOk tells nothing
		strange(kind, at(2, 4+uint64(i)))
		strange(kind, at(3, 4+uint64(i)))
		s.told(at(2, 4+uint64(i)))
		s.knows(at(2, 4+uint64(i)), at(3, 4+uint64(i)))
		strange(kind, at(5, 9))
		s.knows(at(2, 4+uint64(i)), at(3, 4+uint64(i)))
	}
	// It does not count as heard then: what was told at the tick 5 is known till 13.
	s = serving(t, 1)
	s.greeted(at(2, 1), at(3, 1))
	s.now = 13
	s.settle(s.take(13, api.Resp{From: at(2, 2), Kind: api.ReqAdd, Code: api.RespStrange}))
	s.calls(publish(9, 2, 1))
	s.now = 14
	s.ticks(0)
	if _, ok := plan.Open(s.meta.plan(), 1); ok {
		t.Errorf("%+v", s.meta.plan())
	}
	s.now = 13
	s.ticks(0)
	if l, ok := plan.Open(s.meta.plan(), 1); !ok || !alike(l.Frags[0].Bookies, []api.Place{at(2, 2), at(3, 1)}) {
		t.Errorf("%+v", l)
	}
}

// P22.4: what bookies answer goes to each owner, by its number.
func TestTakeToOwners(t *testing.T) {
	s := newScene(t, 3)
	s.greeted(at(2, 1), at(3, 1))
	s.ticks(0)
	var adds []api.Req
	for channel := 3; channel >= 1; channel-- {
		c := publish(9, uint64(channel), 1)
		c.Channel = channel
		adds = append(adds, kind(s.settle(s.call(5, c)).Reqs, api.ReqAdd)...)
	}
	if len(adds) != 6 {
		t.Fatalf("%+v", adds)
	}
	var x api.Sends
	for _, i := range []int{0, 2, 4, 5, 3, 1} {
		x = both(x, s.take(6, resp(adds[i], api.RespOk)))
	}
	is(t, x, api.Sends{Replies: []api.Reply{{Client: 9, Inc: 1, N: 1}, {Client: 9, Inc: 1, N: 2}, {Client: 9, Inc: 1, N: 3}}})
	// Where all go on by one answer, they do so in their order: each asks to keep its channel.
	s.now = 30
	if got := s.renewed(s.take(30, api.Resp{From: at(2, 1), Kind: api.ReqGet})); !alike(got, []int{1, 2, 3}) {
		t.Errorf("%v", got)
	}
}

// P22.4: what a stranger says of itself goes to nobody: no owner goes on by it.
func TestHelloOfStrangers(t *testing.T) {
	s := serving(t, 1)
	for _, node := range []int{2, 9} {
		is(t, s.take(90, hello(at(node, 1), api.RespOk)), api.Sends{})
	}
	if x := s.take(90, api.Resp{From: at(9, 1), Kind: api.ReqAdd}); len(x.Asks) != 1 || s.b.Tell().Owns[0].Asked != api.OpRenew {
		t.Errorf("%+v", x)
	}
}

// P22.4: an answer is heard by the copier, too.
func TestTakeByCopier(t *testing.T) {
	s, x := copies(t, 2)
	gets := kind(x.Reqs, api.ReqGet)
	want := []api.Req{{To: at(3, 1), Kind: api.ReqGet, Ledger: 1, N: 1}}
	if !alike(gets, want) || s.b.Tell().Copies != 1 {
		t.Fatalf("%+v", x)
	}
	is(t, s.take(s.now, resp(gets[0], api.RespNone)), api.Sends{})
	add := api.Req{To: at(2, 2), Kind: api.ReqAdd, Ledger: 1, N: 1, Sure: 2, Copy: 1, Body: []byte("x")}
	is(t, s.take(s.now, has(gets[0], []byte("x"))), api.Sends{Reqs: []api.Req{add}})
	if s.b.Tell().Copies != 2 {
		t.Errorf("%+v", s.b.Tell())
	}
	want[0].N = 2
	is(t, s.take(s.now, resp(add, api.RespOk)), api.Sends{Reqs: want})
}
