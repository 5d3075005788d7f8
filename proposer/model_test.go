package proposer_test

import (
	"bytes"
	"fmt"
	"math/big"
	"math/rand/v2"
	"reflect"
	"slices"
	"testing"

	"scrivener/api"
	"scrivener/ops"
	"scrivener/plan"
	"scrivener/proposer"
)

// top is the greatest number that rounds and lives may have.
const top = 1<<62 - 1

// The model: a proposer as the chapter's words say it, not by way of the package, nor of ballot below it.

// told is what a call answers.
type told struct {
	p       api.Proposer
	asks    []api.Ask
	decided []api.Decided
	e       api.Errno
}

// bal tells a ballot.
func bal(round uint64, node int, inc uint64) api.Ballot {
	return api.Ballot{Round: round, Node: node, Inc: inc}
}

// below tells whether a ballot is ahead of another one.
func below(a, b api.Ballot) bool {
	if a.Round != b.Round {
		return a.Round < b.Round
	}
	if a.Node != b.Node {
		return a.Node < b.Node
	}
	return a.Inc < b.Inc
}

// asked tells what the acceptors are asked.
func asked(p api.Proposer, kind int) []api.Ask {
	var l []api.Ask
	for to := 1; to <= p.Metas && to <= 3; to++ {
		l = append(l, api.Ask{To: to, Kind: kind, Ballot: p.Ballot, Value: bytes.Clone(p.Value)})
	}
	return l
}

// tried tells a proposer that tries; false: it may not.
func tried(p api.Proposer, now uint64) (told, bool) {
	round := new(big.Int).SetUint64(p.High)
	round.Add(round, big.NewInt(int64(p.Tries)))
	if round.Sign() < 0 {
		round.SetInt64(0)
	}
	round.Add(round, big.NewInt(1))
	if p.Node < 1 || p.Node > 15 || p.Inc < 1 || p.Inc > top || round.Cmp(big.NewInt(top)) > 0 {
		return told{p: twin(p)}, false
	}
	p = twin(p)
	p.Ballot = bal(round.Uint64(), p.Node, p.Inc)
	p.High = p.Ballot.Round
	p.Phase = 1
	p.Heard, p.Value, p.Outcome = nil, nil, api.Outcome{}
	p.Since = now
	if p.Tries < 255 {
		p.Tries++
	} else {
		p.Tries = 255
	}
	return told{p: p, asks: asked(p, 1)}, true
}

// started tells what Start should answer.
func started(p api.Proposer, now uint64, o api.Op) told {
	if p.Phase != 0 {
		return told{p: p, e: 5}
	}
	if !ops.May(o) {
		return told{p: p, e: 1}
	}
	next := twin(p)
	next.Op, next.Tries = twin(o), 0
	x, ok := tried(next, now)
	if !ok {
		return told{p: p, e: 3}
	}
	return x
}

// ticked tells what Tick should answer.
func ticked(p api.Proposer, now uint64) told {
	wait := uint64(3 + (p.Node%4+4)%4)
	if p.Phase == 0 || now < p.Since || now-p.Since < wait {
		return told{p: p}
	}
	x, _ := tried(p, now)
	return x
}

// aside tells whether Says are left aside.
func aside(p api.Proposer, s api.Says) bool {
	acceptor := s.From >= 1 && s.From <= p.Metas
	kind := s.Kind == 1 || s.Kind == 2 || s.Kind == 3
	if !acceptor || !kind || s.Ballot != p.Ballot || p.Phase == 0 || p.Phase == 3 && s.Kind != 3 {
		return true
	}
	for _, x := range p.Heard {
		if x.From == s.From {
			return true
		}
	}
	return false
}

// most tells whether a majority of the acceptors was heard.
func most(p api.Proposer) bool {
	nodes := map[int]int{}
	for _, x := range p.Heard {
		if x.From >= 1 && x.From <= p.Metas {
			nodes[x.From]++
		}
	}
	return len(nodes) > p.Metas/2
}

// newest tells the plan that promises tell of; false: there is none.
func newest(p api.Proposer) (api.Plan, bool) {
	var best *api.Promise
	for i, x := range p.Heard {
		if x.Accepted != (api.Ballot{}) && (best == nil || below(best.Accepted, x.Accepted)) {
			best = &p.Heard[i]
		}
	}
	if best == nil {
		if p.Channels < 1 || p.Channels > 3 {
			return api.Plan{}, false
		}
		return api.Plan{Next: 1, Channels: make([]api.Channel, p.Channels)}, true
	}
	q, e := plan.Decode(best.Value)
	return q, e == api.OK
}

// taken tells what Take should answer.
func taken(p api.Proposer, now uint64, s api.Says) told {
	if aside(p, s) {
		return told{p: p}
	}
	p = twin(p)
	switch {
	case s.Kind == 3:
		if s.Promised.Round <= top && s.Promised.Round > p.High {
			p.High = s.Promised.Round
		}
		p.Phase, p.Since = 3, now
	case s.Kind == 1 && p.Phase == 1:
		p.Heard = append(p.Heard, api.Promise{From: s.From, Accepted: s.Accepted, Value: twin(s.Value)})
		if !most(p) {
			break
		}
		q, ok := newest(p)
		if !ok {
			p.Phase, p.Since = 3, now
			break
		}
		q, p.Outcome = ops.Apply(q, p.Op)
		p.Value, _ = plan.Encode(q)
		p.Phase, p.Heard = 2, nil
		return told{p: p, asks: asked(p, 2)}
	case s.Kind == 2 && p.Phase == 2:
		p.Heard = append(p.Heard, api.Promise{From: s.From})
		if !most(p) {
			break
		}
		q, _ := plan.Decode(p.Value)
		x := told{decided: []api.Decided{{Op: p.Op, Outcome: p.Outcome, Plan: q}}}
		x.p = api.Proposer{Node: p.Node, Inc: p.Inc, Metas: p.Metas, Channels: p.Channels, Ballot: p.Ballot, High: p.High, Since: p.Since}
		return x
	}
	return told{p: p}
}

// The calls, held against the model.

// holds looks whether a call answered what it should.
func holds(t *testing.T, got, want told, call ...any) {
	t.Helper()
	if !alike(got, want) {
		t.Fatalf("%+v:\n%+v, not\n%+v", call, got, want)
	}
}

// starts has Start called, and looks at what it answers.
func starts(t *testing.T, p api.Proposer, now uint64, o api.Op) told {
	t.Helper()
	var x told
	x.p, x.asks, x.e = proposer.Start(p, now, o)
	holds(t, x, started(p, now, o), "Start", p, now, o)
	return x
}

// takes has Take called, and looks at what it answers.
func takes(t *testing.T, p api.Proposer, now uint64, s api.Says) told {
	t.Helper()
	var x told
	x.p, x.asks, x.decided = proposer.Take(p, now, s)
	holds(t, x, taken(p, now, s), "Take", p, now, s)
	return x
}

// ticks has Tick called, and looks at what it answers.
func ticks(t *testing.T, p api.Proposer, now uint64) told {
	t.Helper()
	var x told
	x.p, x.asks = proposer.Tick(p, now)
	holds(t, x, ticked(p, now), "Tick", p, now)
	return x
}

// Values as tests hold them against each other, and have them in memory of their own.

// alike tells whether two values are the same; a list that is none is the same as an empty one.
func alike(a, b any) bool { return fmt.Sprintf("%+v", a) == fmt.Sprintf("%+v", b) }

// twin tells the same value in memory of its own, not by way of the package.
func twin[T any](x T) T { return roomy(x, 0) }

// roomy tells the same value in memory of its own, with room for so many more behind each list's end: what stands there is not zero.
func roomy[T any](x T, room int) T {
	return deep(reflect.ValueOf(x), room).Interface().(T)
}

// deep does what roomy does.
func deep(v reflect.Value, room int) reflect.Value {
	c := reflect.New(v.Type()).Elem()
	c.Set(v)
	switch v.Kind() {
	case reflect.Struct:
		for i := range v.NumField() {
			c.Field(i).Set(deep(v.Field(i), room))
		}
	case reflect.Slice:
		c.Set(reflect.MakeSlice(v.Type(), v.Len()+room, v.Len()+room))
		walk(c.Slice(v.Len(), v.Len()+room), func(x reflect.Value) { set(x, 0x5eed) })
		for i := range v.Len() {
			c.Index(i).Set(deep(v.Index(i), room))
		}
		c.Set(c.Slice(0, v.Len()))
	}
	return c
}

// walk goes over the numbers of a value; it tells its lists.
func walk(v reflect.Value, visit func(reflect.Value)) []reflect.Value {
	var lists []reflect.Value
	switch v.Kind() {
	case reflect.Struct:
		for i := range v.NumField() {
			lists = append(lists, walk(v.Field(i), visit)...)
		}
	case reflect.Slice:
		lists = append(lists, v)
		for i := range v.Len() {
			lists = append(lists, walk(v.Index(i), visit)...)
		}
	default:
		visit(v)
	}
	return lists
}

// set has a number be x, as far as it has room for it.
func set(v reflect.Value, x uint64) {
	if v.CanInt() {
		v.SetInt(int64(x))
	} else {
		v.SetUint(x)
	}
}

// Proposers, and what they are told, drawn from a row of chance that is the same at each run.

// one draws one of a row.
func one[T any](d *rand.Rand, l ...T) T { return l[d.IntN(len(l))] }

// drawOp draws an operation that may be, of a life.
func drawOp(d *rand.Rand, who int, inc, n uint64) api.Op {
	o := api.Op{Who: who, Inc: inc, N: n, Channel: 1 + d.IntN(2)}
	epoch, bookie := d.Uint64N(4), api.Place{Node: 7 + d.IntN(3), Serial: 1}
	frags := []api.Frag{{First: 1, Bookies: []api.Place{bookie}}}
	switch o.Kind = one(d, 1, 1, 3, 4, 6, 7, 9, 9, 10, 12); o.Kind {
	case api.OpGrab:
		o.Now = d.Uint64N(200)
	case api.OpConfirm:
		o.Epoch = epoch
	case api.OpLedger:
		o.Epoch, o.W, o.A, o.Frags = epoch, 1, 1, frags
	case api.OpClose:
		o.Epoch, o.Ledger, o.At, o.Frags = epoch, 1+d.Uint64N(2), d.Uint64N(9), frags
	case api.OpTrim:
		o.Epoch, o.At = epoch, d.Uint64N(9)
	case api.OpAck, api.OpSeek:
		o.Epoch, o.Sub, o.At = epoch, 1+d.IntN(3), d.Uint64N(50)
	case api.OpReplace:
		o.Channel, o.Ledger, o.From, o.To = 0, 1, bookie, api.Place{Node: 7 + d.IntN(3), Serial: 2}
	}
	return o
}

// drawPlan draws a plan that was decided, by its bytes.
func drawPlan(d *rand.Rand) []byte {
	p, _ := plan.Start(1 + d.IntN(3))
	for n := range d.Uint64N(6) {
		p, _ = ops.Apply(p, drawOp(d, one(d, 4, 5), 1, n+1))
	}
	b, _ := plan.Encode(p)
	return b
}

// drawValue draws a plan's bytes, or others.
func drawValue(d *rand.Rand) []byte {
	b := drawPlan(d)
	switch d.IntN(8) {
	case 0:
		return nil
	case 1:
		return b[:d.IntN(len(b))]
	case 2:
		return append(b, 0)
	}
	return b
}

// drawBallot draws a ballot that may be, or none, of few lives and rounds, so that the same ones come again.
func drawBallot(d *rand.Rand) api.Ballot {
	if d.IntN(4) == 0 {
		return api.Ballot{}
	}
	return bal(1+d.Uint64N(4), one(d, 4, 5, 6), 1+d.Uint64N(2))
}

// drawProposer draws a proposer in any phase.
func drawProposer(d *rand.Rand) api.Proposer {
	p := api.Proposer{Node: one(d, 4, 5, 6, 7, 15), Inc: one[uint64](d, 1, 2, top), Metas: one(d, 1, 3, 3), Channels: 1 + d.IntN(3)}
	p.High, p.Since = one[uint64](d, 0, 1, 7, 300, top-3, top), one[uint64](d, 0, 5, 100, 1<<64-5)
	if p.Phase = d.IntN(4); p.Phase == 0 {
		if d.IntN(2) == 0 {
			p.Ballot = bal(max(p.High, 1), p.Node, p.Inc)
		}
		return p
	}
	p.Ballot = bal(1+d.Uint64N(9), p.Node, p.Inc)
	p.Op = drawOp(d, p.Node, p.Inc, 1+d.Uint64N(3))
	p.Tries = one(d, 1, 1, 2, 3, 254, 255)
	for _, i := range d.Perm(p.Metas)[:d.IntN(p.Metas)] {
		x := api.Promise{From: i + 1}
		if p.Phase != 2 {
			x.Accepted, x.Value = drawBallot(d), drawValue(d)
		}
		p.Heard = append(p.Heard, x)
	}
	if p.Phase == 2 {
		p.Value = drawValue(d)
		p.Outcome = api.Outcome{Code: api.Errno(d.IntN(10)), Epoch: d.Uint64N(3), At: d.Uint64N(9)}
	}
	return p
}

// drawSays draws what an acceptor says to a proposer, more often than not in answer to what it asks.
func drawSays(d *rand.Rand, p api.Proposer) api.Says {
	s := api.Says{From: 1 + d.IntN(3), Kind: one(d, 1, 2, 3, min(max(p.Phase, 1), 3)), Ballot: p.Ballot}
	if p.Phase == 1 && d.IntN(3) > 0 {
		s.Kind = 1
	}
	switch s.Kind {
	case 1:
		s.Accepted, s.Value = drawBallot(d), drawValue(d)
	case 3:
		s.Promised = bal(one(d, p.High+1, p.High-1, p.High, d.Uint64N(300), top, top+1), one(d, 4, 5), 1)
	}
	return s
}

// edges tells numbers at which something may change.
func edges() []uint64 {
	l := []uint64{254, 255, 256, 1<<32 + 1, 1 << 63, 1<<63 - 1, 1<<63 - 255, top - 1, top, top + 1, 1<<64 - 254, 1<<64 - 255, 1<<64 - 300}
	for i := uint64(0); i <= 17; i++ {
		l = append(l, i, -i)
	}
	return l
}

// altered tells a value, one of whose numbers, or lists, was altered.
func altered[T any](d *rand.Rand, x T) T {
	x = twin(x)
	var numbers []reflect.Value
	lists := walk(reflect.ValueOf(&x).Elem(), func(n reflect.Value) { numbers = append(numbers, n) })
	if d.IntN(4) > 0 {
		n := one(d, numbers...)
		for n.Kind() == reflect.Uint8 && d.IntN(4) > 0 { // most of all numbers are those of plans' bytes
			n = one(d, numbers...)
		}
		set(n, one(d, edges()...))
		return x
	}
	l := one(d, lists...)
	switch n := l.Len(); {
	case n == 0:
		l.Set(reflect.MakeSlice(l.Type(), 1, 1))
	case d.IntN(2) == 0:
		i := d.IntN(n)
		l.Set(reflect.AppendSlice(deep(l.Slice(0, i), 0), l.Slice(i+1, n)))
	default:
		l.Set(reflect.Append(deep(l, 0), deep(l.Index(d.IntN(n)), 0)))
	}
	return x
}

// drawAny draws a proposer of whose fields some may be any.
func drawAny(d *rand.Rand) api.Proposer {
	p := drawProposer(d)
	for range one(d, 0, 0, 1, 1, 2, 5) {
		p = altered(d, p)
	}
	return p
}

// nodes tells whose asks there are, in their order.
func nodes(asks []api.Ask) []int {
	var l []int
	for _, x := range asks {
		l = append(l, x.To)
	}
	return slices.Clip(l)
}
