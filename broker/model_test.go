package broker_test

import (
	"fmt"
	"math/big"
	"math/rand/v2"
	"reflect"
	"slices"
	"testing"

	"scrivener/api"
	"scrivener/broker"
	"scrivener/chain"
	"scrivener/copier"
	"scrivener/owner"
	"scrivener/plan"
	"scrivener/proposer"
)

// top is the greatest number that lives, calls, messages and offsets may have.
const top = 1<<62 - 1

// The model: a broker as the chapter's words say it, not by way of the package; what stands below is what the layers below answer.

// model is a broker, and what it sends by now.
type model struct {
	crew     api.Crew
	owners   []*owner.Owner
	proposer api.Proposer
	waits    []api.Op
	begun    uint64
	newest   api.Plan
	place    map[int]api.Place // that a bookie's node told of last
	can      map[int]bool      // whether it can be written
	heard    map[int]uint64    // when it told of it
	copier   *api.Copier
	asked    bool     // whether its OpReplace was asked for
	hellos   []uint64 // the ticks at which bookies were said hello
	looks    []uint64 // the ticks at which the plan was looked at
	now      uint64
	sends    api.Sends
}

// mayCrew tells whether there may be a broker of a crew.
func mayCrew(c api.Crew) bool {
	s := c.Setup
	ok := (c.Metas == 1 || c.Metas == 3) && s.Node > c.Metas && s.Node <= 15 && s.Inc >= 1 && s.Inc <= top && c.Channels >= 1 && c.Channels <= 3
	ok = ok && 1 <= s.A && s.A <= s.W && s.W <= s.E && s.E <= 5 && len(c.Bookies) >= 1 && len(c.Bookies) <= 5
	times := map[int]int{}
	for _, node := range c.Bookies {
		times[node]++
		ok = ok && node > c.Metas && node <= 15 && times[node] == 1
	}
	return ok
}

// newModel tells a broker that knows nothing; nil: there may be none.
func newModel(c api.Crew) *model {
	if !mayCrew(c) {
		return nil
	}
	m := &model{crew: c, proposer: api.Proposer{Node: c.Setup.Node, Inc: c.Setup.Inc, Metas: c.Metas, Channels: c.Channels}}
	m.newest = api.Plan{Next: 1, Channels: make([]api.Channel, c.Channels)}
	for i := range c.Channels {
		o, _ := owner.New(c.Setup, i+1, m.newest)
		m.owners = append(m.owners, o)
	}
	m.place, m.can, m.heard = map[int]api.Place{}, map[int]bool{}, map[int]uint64{}
	return m
}

// behind tells whether now is so many ticks or more behind a tick.
func (m *model) behind(then uint64, ticks int64) bool {
	due := new(big.Int).Add(new(big.Int).SetUint64(then), big.NewInt(ticks))
	return due.Cmp(new(big.Int).SetUint64(m.now)) <= 0
}

// could tells the places that could be written when they were heard last, in the order of the crew's bookies.
func (m *model) could() []api.Place {
	var l []api.Place
	for _, node := range m.crew.Bookies {
		if m.can[node] {
			l = append(l, m.place[node])
		}
	}
	return l
}

// known tells the places that are known to be written.
func (m *model) known() []api.Place {
	return slices.DeleteFunc(m.could(), func(p api.Place) bool { return m.behind(m.heard[p.Node], 9) })
}

// operation has an operation wait.
func (m *model) operation(o api.Op) {
	if len(m.waits) < 64 {
		m.waits = append(m.waits, o)
	}
	m.becomesFirst()
}

// becomesFirst has the first operation have its number.
func (m *model) becomesFirst() {
	if len(m.waits) == 0 || m.waits[0].N != 0 {
		return
	}
	m.begun++
	o := m.waits[0]
	o.N = m.begun
	if o.Who == 0 {
		o.Who, o.Inc = m.crew.Setup.Node, m.crew.Setup.Inc
	}
	m.waits = slices.Concat([]api.Op{o}, m.waits[1:])
}

// isLeft has the first operation wait no more.
func (m *model) isLeft() {
	m.waits = m.waits[1:]
	m.becomesFirst()
}

// owner does what an owner wants.
func (m *model) owner(x api.Out) {
	m.sends.Reqs = append(m.sends.Reqs, x.Reqs...)
	m.sends.Replies = append(m.sends.Replies, x.Replies...)
	for _, o := range x.Ops {
		m.operation(o)
	}
}

// at begins something at a tick.
func (m *model) at(now uint64) { m.now, m.sends = now, api.Sends{} }

// goesOn starts what waits, and tells all that is sent.
func (m *model) goesOn() api.Sends {
	for len(m.waits) > 0 && m.proposer.Phase == 0 {
		next, asks, e := proposer.Start(m.proposer, m.now, m.waits[0])
		if e == api.OK {
			m.proposer = next
			m.sends.Asks = append(m.sends.Asks, asks...)
		} else {
			m.isLeft()
		}
	}
	return m.sends
}

// call is P22.2.
func (m *model) call(now uint64, c api.Call) api.Sends {
	m.at(now)
	switch {
	case c.Channel >= 1 && c.Channel <= m.crew.Channels:
		m.owner(m.owners[c.Channel-1].Call(now, c))
	case len(c.Body) > 64:
		m.sends.Replies = []api.Reply{{Client: c.Client, Inc: c.Inc, N: c.N, Result: api.TooLarge}}
	default:
		m.sends.Replies = []api.Reply{{Client: c.Client, Inc: c.Inc, N: c.N, Result: api.BadRequest}}
	}
	return m.goesOn()
}

// says is P22.3.
func (m *model) says(now uint64, s api.Says) api.Sends {
	m.at(now)
	next, asks, done := proposer.Take(m.proposer, now, s)
	m.proposer, m.sends.Asks = next, asks
	if len(done) > 0 {
		m.decided(done[0])
	}
	return m.goesOn()
}

// decided is what P22.3 says of an operation that was decided.
func (m *model) decided(d api.Decided) {
	m.isLeft()
	if d.Plan.Version > m.newest.Version {
		m.newest = d.Plan
	}
	for _, o := range m.owners {
		m.owner(o.Decided(m.now, d))
	}
	if c := m.copier; c != nil && m.asked && d.Op.Kind == api.OpReplace && d.Op.Ledger == c.Ledger.Id && d.Op.From == c.From && d.Op.To == c.To {
		m.copier, m.asked = nil, false
	}
}

// take is P22.4.
func (m *model) take(now uint64, r api.Resp) api.Sends {
	m.at(now)
	isOurs := slices.Contains(m.crew.Bookies, r.From.Node)
	if r.Kind == api.ReqHello {
		if isOurs {
			m.place[r.From.Node], m.can[r.From.Node], m.heard[r.From.Node] = r.From, r.Code == api.RespOk, now
		}
		return m.goesOn()
	}
	for _, o := range m.owners {
		m.owner(o.Take(now, r))
	}
	if m.copier != nil {
		next, reqs := copier.Take(*m.copier, now, r)
		m.copier = &next
		m.sends.Reqs = append(m.sends.Reqs, reqs...)
	}
	if p, ok := m.place[r.From.Node]; ok && isOurs && r.Code == api.RespStrange && r.From.Serial > p.Serial {
		m.place[r.From.Node] = r.From
	}
	return m.goesOn()
}

// tick is P22.5.
func (m *model) tick(now uint64) api.Sends {
	m.at(now)
	next, asks := proposer.Tick(m.proposer, now)
	m.proposer, m.sends.Asks = next, asks
	for _, o := range m.owners {
		m.owner(o.Tick(now, m.known()...))
	}
	if m.copier != nil {
		m.copies()
	} else if id, from, to, ok := copier.Find(m.newest, m.known()...); ok {
		l, _ := plan.Find(m.newest, id)
		next, reqs, e := copier.New(l, from, to, now)
		if e == api.OK {
			m.copier, m.asked = &next, false
			m.sends.Reqs = append(m.sends.Reqs, reqs...)
		}
	}
	if len(m.hellos) == 0 || m.behind(m.hellos[len(m.hellos)-1], 3) {
		m.hellos = append(m.hellos, now)
		m.greets()
	}
	if len(m.waits) == 0 && (len(m.looks) == 0 || m.behind(m.looks[len(m.looks)-1], 12)) {
		m.looks = append(m.looks, now)
		m.operation(api.Op{Kind: api.OpConfirm, Channel: 1})
	}
	return m.goesOn()
}

// copies is what P22.5 says of a copier.
func (m *model) copies() {
	next, reqs := copier.Tick(*m.copier, m.now)
	m.sends.Reqs = append(m.sends.Reqs, reqs...)
	m.copier = &next
	if next.Phase == 3 && !m.asked {
		m.operation(api.Op{Kind: api.OpReplace, Ledger: next.Ledger.Id, From: next.From, To: next.To})
		m.asked = true
	}
	if next.Phase == 4 {
		m.copier, m.asked = nil, false
	}
}

// greets is what P22.5 says of ReqHello and ReqFree.
func (m *model) greets() {
	for _, node := range m.crew.Bookies {
		m.sends.Reqs = append(m.sends.Reqs, api.Req{To: at(node, m.place[node].Serial), Kind: api.ReqHello})
	}
	for _, node := range m.crew.Bookies {
		if p, ok := m.place[node]; ok && m.newest.Version > 0 {
			m.sends.Reqs = append(m.sends.Reqs, api.Req{To: p, Kind: api.ReqFree, N: m.newest.Next, Keep: chain.Keep(m.newest)})
		}
	}
}

// tell is what P22.6 says of Tell.
func (m *model) tell() api.Broking {
	x := api.Broking{Version: m.newest.Version, Asked: len(m.waits), N: m.begun, Known: m.could()}
	for _, o := range m.owners {
		x.Owns = append(x.Owns, o.Tell())
	}
	if m.copier != nil {
		x.Copies = m.copier.Phase
	}
	return x
}

// The calls, held against the model.

// pair is a broker, and the model of it, to which the same is done.
type pair struct {
	t    *testing.T
	b    *broker.Broker
	m    *model
	room int // so much room is behind the ends of the lists that are handed in
}

// newPair tells a broker of a crew.
func newPair(t *testing.T, c api.Crew, now uint64) *pair {
	t.Helper()
	in := roomy(c, 2)
	was := wholes(in)
	b, e := broker.New(in, now)
	if e != api.OK || b == nil || !slices.Equal(wholes(in), was) {
		t.Fatalf("%+v: %d", c, e)
	}
	spoil(&in)
	p := &pair{t: t, b: b, m: newModel(twin(c))}
	p.tells("New")
	return p
}

// tells looks at what the broker tells of itself.
func (p *pair) tells(call string) {
	p.t.Helper()
	got := p.b.Tell()
	if want := p.m.tell(); !alike(got, want) {
		p.t.Fatalf("%s: it tells %+v, not %+v", call, got, want)
	}
	spoil(&got)
	newest := p.b.Plan()
	if !plan.Same(newest, p.m.newest) {
		p.t.Fatalf("%s: its plan is %+v, not %+v", call, newest, p.m.newest)
	}
	spoil(&newest)
}

// does has a call be done to both; whatever was handed in, and answered, is spoilt behind it, so that what is kept of it would show.
func does[T any](p *pair, call string, x T, real, words func(T) api.Sends) api.Sends {
	p.t.Helper()
	in := roomy(x, p.room)
	was := wholes(in)
	got := real(in)
	want := words(twin(x))
	call = fmt.Sprintf("%s(%+v)", call, x)
	if !alike(got, want) {
		p.t.Fatalf("%s: %+v, not %+v", call, got, want)
	}
	if !slices.Equal(wholes(in), was) {
		p.t.Fatalf("%s: what is handed in was changed", call)
	}
	apart(p.t, in, got)
	answer := twin(got)
	spoil(&in)
	spoil(&got)
	p.tells(call)
	return answer
}

// call has the broker be called.
func (p *pair) call(now uint64, c api.Call) api.Sends {
	p.t.Helper()
	return does(p, fmt.Sprintf("Call at %d", now), c, func(c api.Call) api.Sends { return p.b.Call(now, c) }, func(c api.Call) api.Sends { return p.m.call(now, c) })
}

// says has the broker hear an acceptor.
func (p *pair) says(now uint64, s api.Says) api.Sends {
	p.t.Helper()
	return does(p, fmt.Sprintf("Says at %d", now), s, func(s api.Says) api.Sends { return p.b.Says(now, s) }, func(s api.Says) api.Sends { return p.m.says(now, s) })
}

// take has the broker hear a bookie.
func (p *pair) take(now uint64, r api.Resp) api.Sends {
	p.t.Helper()
	return does(p, fmt.Sprintf("Take at %d", now), r, func(r api.Resp) api.Sends { return p.b.Take(now, r) }, func(r api.Resp) api.Sends { return p.m.take(now, r) })
}

// tick has the broker be told how late it is.
func (p *pair) tick(now uint64) api.Sends {
	p.t.Helper()
	return does(p, "Tick", now, p.b.Tick, p.m.tick)
}

// Values as tests hold them against each other, and have them in memory of their own.

// alike tells whether two values are the same; a list that is none is the same as an empty one.
func alike(a, b any) bool { return fmt.Sprintf("%+v", a) == fmt.Sprintf("%+v", b) }

// twin tells the same value in memory of its own, not by way of the package.
func twin[T any](x T) T { return roomy(x, 0) }

// roomy tells the same value in memory of its own, with room for so many more behind each list's end: what stands there is not zero.
func roomy[T any](x T, room int) T { return deep(reflect.ValueOf(x), room).Interface().(T) }

// deep does what roomy does.
func deep(v reflect.Value, room int) reflect.Value {
	c := reflect.New(v.Type()).Elem()
	c.Set(v)
	switch v.Kind() {
	case reflect.Struct:
		for i := range v.NumField() {
			c.Field(i).Set(deep(v.Field(i), room))
		}
	case reflect.Slice:
		size := v.Len()
		c.Set(reflect.MakeSlice(v.Type(), size+room, size+room))
		for i := range size + room {
			if i < size {
				c.Index(i).Set(deep(v.Index(i), room))
			} else {
				walk(c.Index(i), func(x reflect.Value) { set(x, 0x5eed) })
			}
		}
		c.Set(c.Slice(0, size))
	}
	return c
}

// walk goes over the numbers of a value; it tells its lists.
func walk(v reflect.Value, visit func(reflect.Value)) []reflect.Value {
	var lists []reflect.Value
	switch v.Kind() {
	case reflect.Struct:
		for i := range v.NumField() {
			lists = append(lists, walk(v.Field(i), visit)...)
		}
	case reflect.Slice:
		lists = append(lists, v)
		for i := range v.Len() {
			lists = append(lists, walk(v.Index(i), visit)...)
		}
	default:
		visit(v)
	}
	return lists
}

// set has a number be x, as far as it has room for it.
func set(v reflect.Value, x uint64) {
	if v.CanInt() {
		v.SetInt(int64(x))
	} else {
		v.SetUint(x)
	}
}

// spoil has all numbers of a value be others, those in the room behind its lists' ends, too.
func spoil(x any) {
	for _, l := range walk(reflect.ValueOf(x).Elem(), func(v reflect.Value) { set(v, 99) }) {
		walk(l.Slice(0, l.Cap()), func(v reflect.Value) { set(v, 99) })
	}
}

// wholes tells all numbers of values, those in the room behind lists' ends, too.
func wholes(values ...any) []uint64 {
	var l []uint64
	add := func(x reflect.Value) {
		if x.CanInt() {
			l = append(l, uint64(x.Int()))
		} else {
			l = append(l, x.Uint())
		}
	}
	for _, v := range values {
		for _, x := range walk(reflect.ValueOf(v), add) {
			l = append(l, uint64(x.Len()))
			walk(x.Slice(0, x.Cap()), add)
		}
	}
	return l
}

// apart looks whether no two lists of values have memory in common, the room behind their ends neither.
func apart(t *testing.T, values ...any) {
	t.Helper()
	var spans [][2]uintptr
	for _, v := range values {
		for _, x := range walk(reflect.ValueOf(v), func(reflect.Value) {}) {
			if size := uintptr(x.Cap()) * x.Type().Elem().Size(); size > 0 {
				spans = append(spans, [2]uintptr{x.Pointer(), x.Pointer() + size})
			}
		}
	}
	slices.SortFunc(spans, func(a, b [2]uintptr) int { return int(a[0]) - int(b[0]) })
	for i := 1; i < len(spans); i++ {
		if spans[i][0] < spans[i-1][1] {
			t.Fatalf("memory in common: %+v", values)
		}
	}
}

// one draws one of a row.
func one[T any](d *rand.Rand, l ...T) T { return l[d.IntN(len(l))] }

// edges tells numbers at which something may change.
func edges() []uint64 {
	l := []uint64{1<<32 + 1, 1 << 60, 1<<60 + 1, 1 << 63, 1<<63 - 1, top - 1, top, top + 1}
	for i := range uint64(17) {
		l = append(l, i, -i)
	}
	return l
}

// altered tells a value, one of whose numbers, or lists, was altered.
func altered[T any](d *rand.Rand, x T) T {
	x = twin(x)
	var numbers []reflect.Value
	lists := walk(reflect.ValueOf(&x).Elem(), func(n reflect.Value) { numbers = append(numbers, n) })
	if len(numbers) > 0 && d.IntN(4) > 0 || len(lists) == 0 {
		set(one(d, numbers...), one(d, edges()...))
		return x
	}
	l := one(d, lists...)
	switch n := l.Len(); {
	case n == 0:
		l.Set(reflect.MakeSlice(l.Type(), 1, 1))
	case d.IntN(2) == 0:
		i := d.IntN(n)
		l.Set(reflect.AppendSlice(deep(l.Slice(0, i), 0), l.Slice(i+1, n)))
	default:
		l.Set(reflect.Append(deep(l, 0), deep(l.Index(d.IntN(n)), 0)))
	}
	return x
}

// at tells the place of a node with a disk of that serial.
func at(node int, serial uint64) api.Place { return api.Place{Node: node, Serial: serial} }
