package owner_test

import (
	"math"
	"testing"

	"scrivener/api"
)

// kinds tells calls as they may be, one of each kind, and what they name.
func kinds() []api.Call {
	l := []api.Call{
		{Kind: api.CallPublish, Seq: 7, Body: []byte("ab")}, {Kind: api.CallPublish, Seq: 1}, {Kind: api.CallPublish, Seq: top, Body: make([]byte, 64)},
		{Kind: api.CallRead}, {Kind: api.CallRead, At: top}, {Kind: api.CallTrim}, {Kind: api.CallTrim, At: top},
		{Kind: api.CallAck, Sub: 1}, {Kind: api.CallAck, Sub: 3, At: top}, {Kind: api.CallSeek, Sub: 3}, {Kind: api.CallSeek, Sub: 1, At: top}, {Kind: api.CallCursor, Sub: 1}, {Kind: api.CallCursor, Sub: 3},
	}
	for i := range l {
		l[i].Client, l[i].Inc, l[i].N, l[i].Channel = 9, 1, 1, 1
	}
	return l
}

// P21.2: calls of each kind that may be wait, and have the channel be grabbed.
func TestCall(t *testing.T) {
	for _, c := range kinds() {
		for _, is := range []func(c *api.Call){
			func(*api.Call) {}, func(c *api.Call) { c.Client = 1 }, func(c *api.Call) { c.Client = 15 }, func(c *api.Call) { c.Inc, c.N = top, top },
		} {
			s := newScene(t)
			c := twin(c)
			is(&c)
			asked(t, s.call(8, c), own(api.OpGrab, api.Op{Now: 8}))
			if x := s.o.Tell(); x != (api.Owning{Channel: 1, Phase: api.OwnGrabs, Calls: 1, Asked: api.OpGrab}) {
				t.Errorf("%+v: %+v", c, x)
			}
		}
	}
}

// P21.2: calls that may not be are answered at once, and change nothing.
func TestBadCalls(t *testing.T) {
	for name, does := range map[string]func(c *api.Call){
		"no client":               func(c *api.Call) { c.Client = 0 },
		"a client above all":      func(c *api.Call) { c.Client = 16 },
		"a client below":          func(c *api.Call) { c.Client = -1 },
		"no life":                 func(c *api.Call) { c.Inc = 0 },
		"a life above all":        func(c *api.Call) { c.Inc = top + 1 },
		"no number":               func(c *api.Call) { c.N = 0 },
		"a number above all":      func(c *api.Call) { c.N = math.MaxUint64 },
		"no kind":                 func(c *api.Call) { c.Kind = 0 },
		"a kind above all":        func(c *api.Call) { c.Kind = 7 },
		"a kind below":            func(c *api.Call) { c.Kind = -1 },
		"no channel":              func(c *api.Call) { c.Channel = 0 },
		"another channel":         func(c *api.Call) { c.Channel = 2 },
		"an offset above all":     func(c *api.Call) { c.At = top + 1 },
		"an offset far above all": func(c *api.Call) { c.At = math.MaxUint64 },
		"a Seq, and no Seq": func(c *api.Call) {
			if c.Seq++; c.Kind == api.CallPublish {
				c.Seq = 0
			}
		},
		"a Seq above all": func(c *api.Call) { c.Seq = top + 1 },
		"bytes, and a subscription": func(c *api.Call) {
			if c.Kind == api.CallPublish {
				c.Sub = 1
			} else {
				c.Body = []byte{0}
			}
		},
		"a subscription above all": func(c *api.Call) { c.Sub = 4 },
		"a subscription below":     func(c *api.Call) { c.Sub = -1 },
		"a subscription, and none": func(c *api.Call) {
			if c.Sub > 0 {
				c.Sub = 0
			} else {
				c.Sub = 1
			}
		},
		"an offset of what has none": func(c *api.Call) {
			if c.At = 1; c.Kind != api.CallPublish && c.Kind != api.CallCursor {
				c.Client = 0
			}
		},
		"another kind": func(c *api.Call) {
			switch {
			case c.Kind == api.CallPublish:
				c.Kind = api.CallRead
			case c.Kind == api.CallRead || c.Kind == api.CallTrim:
				c.Kind = api.CallAck
			default:
				c.Kind = api.CallRead
			}
		},
	} {
		for _, c := range kinds() {
			c := twin(c)
			c.Inc, c.N = 3, 4
			does(&c)
			s := newScene(t)
			want := api.Reply{Client: c.Client, Inc: c.Inc, N: c.N, Result: api.BadRequest}
			t.Run(name, func(t *testing.T) { is(t, s.call(8, c), api.Out{Replies: []api.Reply{want}}) })
			s.phase(api.OwnIdle)
			long := twin(c)
			long.Body = make([]byte, 65)
			want.Result = api.TooLarge
			t.Run(name+", too long", func(t *testing.T) { is(t, s.call(8, long), api.Out{Replies: []api.Reply{want}}) })
			s.phase(api.OwnIdle)
		}
	}
}

// P21.2: how long a message may be; what is too long is told ahead of all else that it may not be.
func TestLongCalls(t *testing.T) {
	for size, want := range map[int]api.Result{65: api.TooLarge, 66: api.TooLarge, 1 << 20: api.TooLarge} {
		s := newScene(t)
		c := publish(9, 1, 1)
		c.Body = make([]byte, size)
		replied(t, s.calls(c), api.Reply{Client: 9, Result: want})
		s.phase(api.OwnIdle)
		replied(t, s.call(5, api.Call{Body: c.Body, Client: 9, Inc: 1, N: 1}), api.Reply{Client: 9, Result: want})
	}
	s := newScene(t)
	s.calls(publish(9, 1, 1))
	c := publish(8, 1, 1)
	c.Body = make([]byte, 65)
	replied(t, s.calls(c), api.Reply{Client: 8, Result: api.TooLarge})
	if x := s.o.Tell(); x.Calls != 1 {
		t.Errorf("%+v", x)
	}
}

// P21.2: while one of a client's calls waits, it is left aside itself, and so are earlier ones; a later one goes in its place, behind all others.
func TestCallsOfOneClient(t *testing.T) {
	for _, c := range []struct {
		inc, n uint64
		goes   bool
	}{
		{5, 5, false}, {5, 4, false}, {5, 1, false}, {4, 5, false}, {4, 9, false}, {1, top, false}, {5, 6, true}, {5, top, true}, {6, 1, true}, {6, 5, true}, {top, 1, true}, {6, 9, true},
	} {
		s := newScene(t)
		first := read(9, 5, 3)
		first.Inc = 5
		s.calls(first)
		s.calls(read(8, 1, 4))
		next := read(9, c.n, 7)
		next.Inc = c.inc
		is(t, s.calls(next), api.Out{})
		if x := s.o.Tell(); x.Calls != 2 || x.Asked != api.OpGrab {
			t.Errorf("%+v: %+v", c, x)
		}
		stays := api.Reply{Client: 9, Inc: 5, N: 5, Result: api.NotOwner, Owner: 4}
		want := []api.Reply{stays, {Client: 8, Inc: 1, N: 1, Result: api.NotOwner, Owner: 4}}
		if c.goes {
			stays.Inc, stays.N = c.inc, c.n
			want = []api.Reply{want[1], stays}
		}
		is(t, s.told(own(api.OpGrab, api.Op{Now: 5}), api.Outcome{Code: api.ErrState, Epoch: 2, Owner: 4}), api.Out{Replies: want})
	}
}

// P21.2: a call that is left aside, or refused, has nothing else be done, however late it is.
func TestCallsLeftAside(t *testing.T) {
	s := serving(t)
	s.calls(read(9, 3, 1))
	is(t, s.call(99, read(9, 3, 1)), api.Out{})
	is(t, s.call(99, read(9, 2, 1)), api.Out{})
	if x := s.o.Tell(); x.Calls != 1 || x.Asked != api.OpConfirm {
		t.Errorf("%+v", x)
	}
}

// P21.2: just the first call has the channel be grabbed; where it was lost, the next one does, anew.
func TestGrabs(t *testing.T) {
	s := newScene(t)
	asked(t, s.calls(read(9, 1, 1)), own(api.OpGrab, api.Op{Now: 5}))
	is(t, s.call(20, read(8, 1, 1)), api.Out{})
	is(t, s.tick(40, firsts(7, 8, 9)...), api.Out{})
	s.told(own(api.OpGrab, api.Op{Now: 5}), api.Outcome{Code: api.ErrState, Owner: 4})
	s.phase(api.OwnIdle)
	asked(t, s.call(41, read(8, 2, 1)), own(api.OpGrab, api.Op{Now: 41}))
	s.phase(api.OwnGrabs)
}

// P21.2: what waits for a call that went is left aside: a publish's entry stays where it is, a fetch is none any more.
func TestCallGoes(t *testing.T) {
	s := writing(t, 2)
	x := s.calls(read(8, 1, 0))
	x = s.decide(x.Ops[0])
	if len(x.Reqs) != 1 {
		t.Fatalf("%+v", x)
	}
	get := x.Reqs[0]
	s.calls(publish(8, 2, 1))
	is(t, s.take(5, has(get, stored(9, 1))), api.Out{})
	is(t, s.tick(8, firsts(7, 8, 9)...), api.Out{Reqs: []api.Req{add(at(9, 1), 3, 2, stored(8, 1)), add(at(7, 1), 3, 2, stored(8, 1))}})
	// The same message once more, as another call: it is sent already.
	is(t, s.calls(publish(8, 3, 1)), api.Out{})
	x = s.oks([]api.Req{add(at(9, 1), 3, 2, nil), add(at(7, 1), 3, 2, nil)})
	replied(t, x, api.Reply{Client: 8, N: 3, At: 2})
	// An operation that is under way for a call that went.
	x = s.calls(api.Call{Client: 8, N: 4, Kind: api.CallTrim, At: 1})
	s.calls(api.Call{Client: 8, N: 5, Kind: api.CallRead, At: 9})
	is(t, s.decide(x.Ops[0]), api.Out{})
}
