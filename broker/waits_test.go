package broker_test

import (
	"testing"

	"scrivener/api"
	"scrivener/broker"
	"scrivener/plan"
)

// acks has so many operations of clients wait, each for another offset, behind what the proposer does.
func (s *scene) acks(many int) {
	s.t.Helper()
	for i := range many {
		c := ack(9, uint64(i)+100, uint64(i)+1)
		s.call(s.now, c)
	}
}

// An operation waits behind the others, of which there are 64 at most, the one that is done among them; another one is left aside.
func TestRoom(t *testing.T) {
	s := serving(t, 1)
	s.acks(63)
	if x := s.b.Tell(); x.Asked != 63 || x.N != 1 {
		t.Fatalf("%+v", x)
	}
	s.acks(64) // of these just the last one's is new to the owner: that of the client's N 163
	if x := s.b.Tell(); x.Asked != 64 {
		t.Fatalf("%+v", x)
	}
	s.call(5, ack(9, 500, 999))
	s.call(5, ack(8, 1, 998))
	if x := s.b.Tell(); x.Asked != 64 || x.Owns[0].Calls != 2 {
		t.Fatalf("%+v", x)
	}
	var cursors []uint64
	x := api.Sends{Asks: prepares(3)}
	for len(x.Asks) > 0 {
		x = s.says(5, s.meta.asked(x.Asks[0]))
		if at := s.meta.plan().Channels[0].Cursors[0].At; len(cursors) == 0 || cursors[len(cursors)-1] != at {
			cursors = append(cursors, at)
		}
	}
	// Those that were left aside are decided never, and their clients are not answered.
	if x := s.b.Tell(); x.Asked != 0 || x.Owns[0].Calls != 2 || x.N != 1 {
		t.Errorf("%+v", x)
	}
	for i, at := range cursors {
		if i != int(at) {
			t.Fatalf("%v", cursors)
		}
	}
	if len(cursors) != 65 {
		t.Errorf("%v", cursors)
	}
}

// Where 64 wait, what was decided makes room for one more: what an owner wants then waits.
func TestRoomBehindDecided(t *testing.T) {
	s := serving(t, 2)
	c := ack(7, 1, 5)
	c.Channel = 2
	s.call(5, c) // it asks for the channel 2: that is done first
	s.acks(63)
	if x := s.b.Tell(); x.Asked != 64 || x.N != 2 {
		t.Fatalf("%+v", x)
	}
	x := s.says(5, s.meta.asked(prepares(3)[0]))
	s.says(5, s.meta.asked(x.Asks[0]))
	if x := s.b.Tell(); x.Asked != 64 || x.N != 2 || x.Owns[1].Phase != api.OwnServes {
		t.Fatalf("%+v", x)
	}
	is(t, s.settle(api.Sends{Asks: prepares(4)}), api.Sends{Replies: []api.Reply{{Client: 9, Inc: 1, N: 162, At: 63}, {Client: 7, Inc: 1, N: 1, At: 5}}})
}

// P22.5: the copier's operation counts as asked for, where it is left aside, too.
func TestRoomOfCopier(t *testing.T) {
	s, _ := copies(t, 0)
	is(t, s.settle(s.calls(ack(9, 1, 0))), api.Sends{Replies: []api.Reply{{Client: 9, Inc: 1, N: 1, Result: api.NotOwner, Owner: 6}}})
	s.now = 30
	is(t, s.settle(s.calls(ack(9, 2, 0))), api.Sends{Replies: []api.Reply{{Client: 9, Inc: 1, N: 2}}})
	s.acks(64)
	s.tick(30)
	if x := s.b.Tell(); x.Asked != 64 || x.Copies != 3 {
		t.Fatalf("%+v", x)
	}
	x := s.tick(40)
	s.now = 40
	s.settle(api.Sends{Asks: x.Asks})
	for range 3 {
		s.ticks(20)
		s.greeted(at(2, 2), at(3, 1), at(5, 1))
	}
	if x := s.b.Tell(); x.Asked != 0 || x.Copies != 3 || s.replaced(1) {
		t.Errorf("%+v", x)
	}
}

// An operation of its own has its number when it becomes the first, one more than the last one; a client's has its call's.
func TestNumbers(t *testing.T) {
	s := serving(t, 3)
	s.call(5, ack(9, 77, 1)) // it is done
	if x := s.b.Tell(); x.N != 1 || x.Asked != 1 {
		t.Fatalf("%+v", x)
	}
	for channel := 2; channel <= 3; channel++ {
		c := ack(8, uint64(channel), 1)
		c.Channel = channel
		s.call(5, c)
	}
	s.call(5, ack(7, 99, 2))
	tells := func(asked int, n uint64) {
		t.Helper()
		if x := s.b.Tell(); x.Asked != asked || x.N != n {
			t.Errorf("%+v, not %d, %d", x, asked, n)
		}
	}
	tells(4, 1)
	x := api.Sends{Asks: prepares(3)}
	decides := func() {
		t.Helper()
		for range 2 {
			x = s.says(5, s.meta.asked(x.Asks[0]))
		}
	}
	decides() // client 9's: the next one is to ask for the channel 2
	tells(3, 2)
	decides() // what client 8 wants there waits
	tells(3, 3)
	decides()
	tells(3, 3)
	decides()
	tells(2, 3)
	past := s.meta.plan().Past
	want := []api.Past{{Who: 4, Inc: 1, N: 3, Outcome: api.Outcome{Epoch: 1, Owner: 4}}, {Who: 7, Inc: 1, N: 99, Outcome: api.Outcome{At: 2}}, {Who: 9, Inc: 1, N: 77, Outcome: api.Outcome{At: 1}}}
	if !alike(past, want) {
		t.Errorf("%+v", past)
	}
}

// A broker's life has its Inc in what it does itself, too.
func TestLife(t *testing.T) {
	c := crew(1)
	c.Setup.Node, c.Setup.Inc = 9, top
	s := &scene{pair: newPair(t, c, 5), meta: rule{node: 1}, now: 5}
	s.ticks(0)
	if past := s.meta.plan().Past; !alike(past, []api.Past{{Who: 9, Inc: top, N: 1}}) {
		t.Errorf("%+v", past)
	}
}

// To go on: an operation that may not be is left aside, with its number; what waits behind it is started. (Here it is the copier's, to a place that may not be.)
func TestLeftAside(t *testing.T) {
	s := newScene(t, 1)
	s.lost(0)
	s.ticks(0)
	s.greeted(at(2, 0), at(3, 1))
	s.ticks(0)
	if x := s.b.Tell(); x.Copies != 3 || x.N != 1 {
		t.Fatalf("%+v", x)
	}
	is(t, s.tick(s.now), api.Sends{})
	if x := s.b.Tell(); x.Copies != 3 || x.N != 2 || x.Asked != 0 {
		t.Fatalf("%+v", x)
	}
	is(t, s.tick(s.now), api.Sends{})
	if x := s.b.Tell(); x.Copies != 3 || x.N != 2 {
		t.Errorf("%+v", x)
	}
	// Behind it something waits.
	s = newScene(t, 2)
	s.lost(0)
	s.ticks(0)
	s.greeted(at(2, 0), at(3, 1))
	s.ticks(0)
	s.now = 30
	c := ack(9, 1, 3)
	c.Channel = 2
	s.call(30, c)
	s.tick(30)
	s.calls(ack(8, 1, 4))
	if x := s.b.Tell(); x.Asked != 3 || x.N != 2 {
		t.Fatalf("%+v", x)
	}
	s.now = 34
	x := s.tick(34)
	for s.b.Tell().N == 2 {
		x = s.says(34, s.meta.asked(x.Asks[0]))
	}
	// By now channel 1 is asked for; behind that wait client 9's, and that channel 2 is kept.
	if x := s.b.Tell(); x.Asked != 3 || x.N != 4 || x.Copies != 3 {
		t.Errorf("%+v", x)
	}
	is(t, s.settle(x), api.Sends{Replies: []api.Reply{{Client: 9, Inc: 1, N: 1, At: 3}, {Client: 8, Inc: 1, N: 1, At: 4}}})
}

// To go on: where there are no more ballots all that waits is left aside.
func TestNoBallots(t *testing.T) {
	s := newScene(t, 2)
	s.calls(ack(9, 1, 0))
	s.says(5, api.Says{From: 1, Kind: api.SaysRefused, Ballot: prepares(1)[0].Ballot, Promised: api.Ballot{Round: top - 3, Node: 9, Inc: 1}})
	s.now = 9
	c := ack(8, 1, 0)
	c.Channel = 2
	s.call(9, c)
	x := s.tick(9)
	if len(x.Asks) != 1 || x.Asks[0].Ballot.Round < top-2 {
		t.Fatalf("%+v", x)
	}
	s.settle(api.Sends{Asks: x.Asks})
	for i := range uint64(5) {
		s.now += 12
		s.ticks(0)
		s.call(s.now, ack(9, 2+i, 0))
	}
	if x := s.b.Tell(); x.Asked != 0 || x.N < 6 {
		t.Errorf("%+v", x)
	}
}

// P22.6: a copy is the same, and goes on by itself: what is done to the one shows in the other one not at all.
func TestCopy(t *testing.T) {
	for name, make := range map[string]func() *scene{
		"new": func() *scene { return newScene(t, 2) }, "serving": func() *scene { return serving(t, 2) },
		"copies": func() *scene { s, _ := copies(t, 2); return s }, "copied": func() *scene { s, _ := copies(t, 0); s.tick(6); return s },
		"waits": func() *scene {
			s := serving(t, 2)
			s.greeted(at(2, 1), at(3, 1))
			s.ticks(0)
			for channel := 2; channel >= 1; channel-- {
				c := publish(9, 3, 1)
				c.Channel = channel
				s.call(5, c)
				c.Client = 8
				s.call(5, c)
			}
			s.acks(3)
			return s
		},
	} {
		s := make()
		c := s.b.Copy()
		if c == s.b || !alike(c.Tell(), s.b.Tell()) || !plan.Same(c.Plan(), s.b.Plan()) {
			t.Fatalf("%s: %+v", name, c.Tell())
		}
		first, second := *s, *make()
		second.pair.b = c
		for i, x := range []*scene{&first, &second, &first, &second, &second, &first} {
			x.now = 20 + 5*uint64(i)
			n := uint64(10 + i)
			x.take(x.now, hello(at(2, n), i%3))
			x.take(x.now, api.Resp{From: at(3, 1), Kind: api.ReqGet, Ledger: 1, N: 1, Body: []byte("x")})
			x.settle(x.call(x.now, publish(7, n, n)))
			x.acks(3 * i)
			x.ticks(0)
			x.take(x.now, api.Resp{From: at(2, 2), Kind: api.ReqAdd, Code: api.RespStrange, Ledger: 1, N: 1})
			x.now += 9
			x.ticks(0)
			x.says(x.now, api.Says{From: 1, Kind: api.SaysRefused, Ballot: x.m.proposer.Ballot, Promised: api.Ballot{Round: 99, Node: 9, Inc: 1}})
		}
	}
}

// P22.7: of no broker, and of one that New did not make, nothing.
func TestNoBroker(t *testing.T) {
	made := serving(t, 1)
	made.greeted(at(2, 1), at(3, 1))
	made.acks(3)
	copied := *made.b
	for name, b := range map[string]*broker.Broker{"nil": nil, "none": {}, "copied": &copied} {
		for _, x := range []api.Sends{
			b.Call(5, publish(9, 700, 9)), b.Call(5, api.Call{}), b.Call(5, api.Call{Body: make([]byte, 99)}), b.Says(5, made.meta.asked(prepares(3)[0])), b.Says(5, api.Says{}),
			b.Take(5, hello(at(2, 9), 0)), b.Take(5, api.Resp{}), b.Tick(99), b.Tick(0),
		} {
			if !alike(x, api.Sends{}) {
				t.Errorf("%s: %+v", name, x)
			}
		}
		if !alike(b.Tell(), api.Broking{}) || !alike(b.Plan(), api.Plan{}) || b.Copy() != nil {
			t.Errorf("%s: %+v, %+v", name, b.Tell(), b.Plan())
		}
	}
	made.tells("beside a copy by value")
}
