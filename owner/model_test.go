package owner_test

import (
	"fmt"
	"math/big"
	"math/rand/v2"
	"reflect"
	"slices"
	"testing"

	"scrivener/api"
	"scrivener/chain"
	"scrivener/entry"
	"scrivener/owner"
	"scrivener/plan"
	"scrivener/reader"
	"scrivener/recovery"
	"scrivener/seen"
	"scrivener/stripe"
	"scrivener/writer"
)

// top is the greatest number that lives, calls, messages and offsets may have.
const top = 1<<62 - 1

// The model: an owner as the chapter's words say it, not by way of the package; what stands below is what the layers below answer.

// waiting is a call that waits, in its stage, by the chapter's name for it.
type waiting struct {
	api.Call
	stage  string
	offset uint64     // of one that is sent
	fetch  *api.Fetch // of one that fetches
}

// model is an owner, and what it wants by now.
type model struct {
	setup    api.Setup
	channel  int
	plan     api.Plan
	phase    int
	epoch    uint64
	calls    []*waiting
	marks    map[uint64]api.Entry // by offsets: who published what stands there, by which Seq
	asked    *api.Op
	last     uint64 // the tick of the last OpGrab or OpRenew
	writer   *api.Writer
	recovery *api.Recovery
	replay   *api.Fetch
	replayAt uint64
	fetches  uint64
	known    []api.Place
	now      uint64
	out      api.Out
}

// newModel tells an owner that has not the channel; nil: there may be none.
func newModel(s api.Setup, channel int, p api.Plan) *model {
	if s.Node < 1 || s.Node > 15 || s.Inc < 1 || s.Inc > top || s.A < 1 || s.A > s.W || s.W > s.E || s.E > 5 || channel < 1 || channel > 3 || !plan.May(p) {
		return nil
	}
	return &model{setup: s, channel: channel, plan: p}
}

// row tells the channel by the plan.
func (m *model) row() api.Channel {
	if m.channel <= len(m.plan.Channels) {
		return m.plan.Channels[m.channel-1]
	}
	return api.Channel{}
}

// length tells the channel's length.
func (m *model) length() uint64 {
	if m.writer != nil {
		return chain.Length(m.plan, m.channel, m.writer.Sure)
	}
	return chain.Length(m.plan, m.channel, 0)
}

// seen tells the row of marks, of those below an offset.
func (m *model) seen(below *uint64) []api.Mark {
	var offsets []uint64
	for at := range m.marks {
		if below == nil || at < *below {
			offsets = append(offsets, at)
		}
	}
	slices.Sort(offsets)
	row := m.row().Seen
	for _, at := range offsets {
		if next, e := seen.Add(row, api.Mark{Producer: m.marks[at].Producer, Seq: m.marks[at].Seq, Offset: at}); e == api.OK {
			row = next
		}
	}
	return row
}

// behind tells whether so many ticks have gone by since then.
func (m *model) behind(then uint64, ticks int64) bool {
	due := new(big.Int).Add(new(big.Int).SetUint64(then), big.NewInt(ticks))
	return due.Cmp(new(big.Int).SetUint64(m.now)) <= 0
}

// asks asks for an operation of its own.
func (m *model) asks(o api.Op) {
	o.Who, o.Inc, o.Channel = m.setup.Node, m.setup.Inc, m.channel
	if o.Kind != api.OpGrab {
		o.Epoch = m.epoch
	}
	m.asked = &o
	m.out.Ops = append(m.out.Ops, o)
}

// reqs has bookies be asked.
func (m *model) reqs(l []api.Req) { m.out.Reqs = append(m.out.Reqs, l...) }

// replies answers a call, which waits no more.
func (m *model) replies(x *waiting, r api.Reply) {
	r.Client, r.Inc, r.N = x.Client, x.Inc, x.N
	m.out.Replies = append(m.out.Replies, r)
	i := slices.Index(m.calls, x)
	m.calls = slices.Concat(m.calls[:i], m.calls[i+1:])
}

// in tells the calls of a stage.
func (m *model) in(stage string) []*waiting {
	var l []*waiting
	for _, x := range m.calls {
		if x.stage == stage {
			l = append(l, x)
		}
	}
	return l
}

// lost has lost, to somebody.
func (m *model) lost(to int) {
	for _, x := range slices.Clone(m.calls) {
		result := api.NotOwner
		if x.Kind == api.CallPublish && x.stage == "sent" {
			result = api.Fenced
		}
		m.replies(x, api.Reply{Result: result, Owner: to})
	}
	m.phase, m.epoch, m.marks, m.asked, m.writer, m.recovery, m.replay = api.OwnIdle, 0, nil, nil, nil, nil, nil
}

// fetch begins to fetch what stands at an offset.
func (m *model) fetch(offset uint64) *api.Fetch {
	sure := uint64(0)
	if m.writer != nil {
		sure = m.writer.Sure
	}
	spot, e := chain.Find(m.plan, m.channel, sure, offset)
	if e != api.OK {
		return nil
	}
	l, _ := plan.Find(m.plan, spot.Ledger)
	f, reqs, _ := reader.New(l, spot.N, 1<<60+m.fetches, m.now)
	m.fetches++
	m.reqs(reqs)
	return &f
}

// goesOn does the first that applies, again and again.
func (m *model) goesOn() {
	for m.closes() || m.replays() || m.tells() || m.begins() || m.wants() {
	}
}

// closes is 1.
func (m *model) closes() bool {
	if m.phase != api.OwnRecovers || m.asked != nil {
		return false
	}
	last, frags, ok := recovery.Ended(*m.recovery)
	if ok {
		m.asks(api.Op{Kind: api.OpClose, Ledger: m.recovery.Ledger.Id, At: last, Frags: frags})
	}
	return ok
}

// replays is 2.
func (m *model) replays() bool {
	if m.phase != api.OwnReplays || m.replay != nil {
		return false
	}
	for at := m.row().First; at < plan.End(m.plan, m.channel); at++ {
		if _, ok := m.marks[at]; !ok {
			m.replay, m.replayAt = m.fetch(at), at
			return m.replay != nil
		}
	}
	m.phase = api.OwnServes
	return true
}

// tells is 3 and 4.
func (m *model) tells() bool {
	for _, x := range m.in("fetches") {
		if x.fetch.Done == 1 {
			e, _ := entry.Decode(x.fetch.Body)
			m.replies(x, api.Reply{Result: api.Done, At: x.At, Producer: e.Producer, Seq: e.Seq, Body: e.Body})
			return true
		}
	}
	for _, x := range m.in("sent") {
		if x.offset < m.length() {
			m.replies(x, api.Reply{Result: api.Done, At: x.offset})
			return true
		}
	}
	return false
}

// begins is 5.
func (m *model) begins() bool {
	for _, x := range m.in("new") {
		if m.phase == api.OwnServes && m.begin(x) {
			return true
		}
	}
	return false
}

// begin does what 5 says of a call.
func (m *model) begin(x *waiting) bool {
	o := api.Op{Who: x.Client, Inc: x.Inc, N: x.N, Channel: m.channel, Epoch: m.epoch, Sub: x.Sub, At: x.At}
	switch x.Kind {
	case api.CallPublish:
		return m.publish(x)
	case api.CallRead:
		x.stage = "wants"
		return true
	case api.CallTrim:
		o.Kind, o.At = api.OpTrim, min(x.At, m.length())
	case api.CallAck:
		o.Kind = api.OpAck
	case api.CallSeek:
		o.Kind = api.OpSeek
	case api.CallCursor:
		o.Kind = api.OpCursor
	}
	m.out.Ops = append(m.out.Ops, o)
	x.stage = "done by the plan"
	return true
}

// publish does what 5 says of a publish.
func (m *model) publish(x *waiting) bool {
	row := m.seen(nil)
	mark, _ := seen.Last(row, x.Client)
	switch what, at := seen.Ask(row, x.Client, x.Seq); {
	case what == api.SeenOld && mark.Offset < m.length():
		m.replies(x, api.Reply{Result: api.BadRequest})
	case what == api.SeenFull:
		m.replies(x, api.Reply{Result: api.QuotaFull})
	case what == api.SeenLast && at < m.length():
		m.replies(x, api.Reply{Result: api.Done, At: at})
	case what == api.SeenLast:
		x.stage, x.offset = "sent", at
	case what == api.SeenNew && m.writer != nil && m.writer.Next <= 8:
		b, _ := entry.Encode(api.Entry{Producer: x.Client, Seq: x.Seq, Body: x.Body})
		at := plan.End(m.plan, m.channel) + m.writer.Next - 1
		next, reqs, _ := writer.Send(*m.writer, m.now, b)
		m.writer = &next
		m.reqs(reqs)
		m.marked(at, api.Entry{Producer: x.Client, Seq: x.Seq})
		x.stage, x.offset = "sent", at
	default:
		return false
	}
	return true
}

// marked has a mark be there.
func (m *model) marked(at uint64, e api.Entry) {
	if m.marks == nil {
		m.marks = map[uint64]api.Entry{}
	}
	m.marks[at] = e
}

// publishes tells the publishes that are new.
func (m *model) publishes() []*waiting {
	return slices.DeleteFunc(m.in("new"), func(x *waiting) bool { return x.Kind != api.CallPublish })
}

// wants is 6.
func (m *model) wants() bool {
	if m.phase != api.OwnServes || m.asked != nil {
		return false
	}
	if m.writer != nil && len(m.writer.Bad) > 0 {
		next, f, ok := writer.Ask(*m.writer, m.setup.E, m.known...)
		m.writer = &next
		if ok {
			m.asks(api.Op{Kind: api.OpChange, Ledger: next.Ledger.Id, Frags: []api.Frag{f}})
			return true
		}
	}
	if m.writer != nil && m.writer.Next > 8 && m.writer.Next == m.writer.Sure+1 {
		m.asks(api.Op{Kind: api.OpClose, Ledger: m.writer.Ledger.Id, At: m.writer.Sure, Frags: m.writer.Ledger.Frags})
		return true
	}
	if m.writer == nil && len(m.publishes()) > 0 {
		if picked, e := stripe.Pick(m.known, m.setup.E, m.setup.W); e == api.OK {
			if _, open := plan.Open(m.plan, m.channel); open {
				m.lost(0)
			} else {
				m.asks(api.Op{Kind: api.OpLedger, W: m.setup.W, A: m.setup.A, Frags: []api.Frag{{First: 1, Bookies: picked}}})
			}
			return true
		}
	}
	return m.wantsMore()
}

// wantsMore is what 6 says further.
func (m *model) wantsMore() bool {
	if m.behind(m.last, 4) {
		m.last = m.now
		m.asks(api.Op{Kind: api.OpRenew, Now: m.now})
		return true
	}
	if l := m.in("wants"); len(l) > 0 {
		for _, x := range l {
			x.stage = "asked"
		}
		m.asks(api.Op{Kind: api.OpConfirm})
		return true
	}
	if gone, next, first := chain.Gone(m.plan, m.channel); len(gone) > 0 {
		m.asks(api.Op{Kind: api.OpForget, Ledger: next, Seen: m.seen(&first)})
		return true
	}
	return false
}

// at begins something at a tick.
func (m *model) at(now uint64) { m.now, m.out = now, api.Out{} }

// mayCall tells whether a call may be.
func (m *model) mayCall(c api.Call) bool {
	if c.Client < 1 || c.Client > 15 || c.Inc < 1 || c.Inc > top || c.N < 1 || c.N > top || c.Kind < 1 || c.Kind > 6 || c.Channel != m.channel || c.At > top {
		return false
	}
	names := [][3]bool{1: {true, false, false}, 2: {false, true, false}, 3: {false, true, false}, 4: {false, true, true}, 5: {false, true, true}, 6: {false, false, true}}[c.Kind]
	if names[0] && (c.Seq < 1 || c.Seq > top) || !names[0] && (c.Seq != 0 || len(c.Body) > 0) {
		return false
	}
	return (names[1] || c.At == 0) && (names[2] && c.Sub >= 1 && c.Sub <= 3 || !names[2] && c.Sub == 0)
}

// call is P21.2.
func (m *model) call(now uint64, c api.Call) api.Out {
	m.at(now)
	refused := api.Reply{Client: c.Client, Inc: c.Inc, N: c.N, Result: api.BadRequest}
	if len(c.Body) > 64 {
		refused.Result = api.TooLarge
	}
	if len(c.Body) > 64 || !m.mayCall(c) {
		m.out.Replies = []api.Reply{refused}
		return m.out
	}
	for i, x := range m.calls {
		if x.Client != c.Client {
			continue
		}
		if x.Inc > c.Inc || x.Inc == c.Inc && x.N >= c.N {
			return m.out
		}
		m.calls = slices.Concat(m.calls[:i], m.calls[i+1:])
		break
	}
	m.calls = append(m.calls, &waiting{Call: c, stage: "new"})
	if m.phase == api.OwnIdle {
		m.asks(api.Op{Kind: api.OpGrab, Now: now})
		m.phase, m.last = api.OwnGrabs, now
	}
	m.goesOn()
	return m.out
}

// take is P21.3.
func (m *model) take(now uint64, r api.Resp) api.Out {
	m.at(now)
	isGet := r.Kind == api.ReqGet
	switch {
	case r.Kind == api.ReqAdd && m.phase == api.OwnServes && m.writer != nil:
		next := writer.Take(*m.writer, now, r)
		m.writer = &next
		if next.Fenced == 1 {
			m.lost(0)
		}
	case isGet && r.Epoch >= 1<<60:
		m.takeGet(r)
	case m.phase == api.OwnRecovers && (isGet || r.Kind == api.ReqFence || r.Kind == api.ReqAdd):
		next, reqs := recovery.Take(*m.recovery, now, r)
		m.recovery = &next
		m.reqs(reqs)
	}
	m.goesOn()
	return m.out
}

// all tells all that is fetched, with its offset.
func (m *model) all() (fetches []*api.Fetch, offsets []uint64) {
	if m.replay != nil {
		fetches, offsets = append(fetches, m.replay), append(offsets, m.replayAt)
	}
	for _, x := range m.in("fetches") {
		fetches, offsets = append(fetches, x.fetch), append(offsets, x.At)
	}
	return fetches, offsets
}

// takeGet is what P21.3 says of an answer to a fetch.
func (m *model) takeGet(r api.Resp) {
	fetches, offsets := m.all()
	for i, f := range fetches {
		if f.Tag != r.Epoch {
			continue
		}
		e, code := entry.Decode(r.Body)
		known, ok := m.marks[offsets[i]]
		if r.Code == api.RespOk && (code != api.OK || ok && (e.Producer != known.Producer || e.Seq != known.Seq)) {
			r.Code = api.RespNone
		}
		next, reqs := reader.Take(*f, m.now, r)
		*f = next
		m.reqs(reqs)
	}
	if m.replay != nil && m.replay.Done == 1 {
		e, _ := entry.Decode(m.replay.Body)
		m.marked(m.replayAt, e)
		m.replay = nil
	}
}

// decided is P21.4.
func (m *model) decided(now uint64, d api.Decided) api.Out {
	m.at(now)
	if d.Plan.Version > m.plan.Version {
		m.learn(d.Plan)
	}
	var done *waiting
	kinds := []int{0, 0, 0, api.OpTrim, api.OpAck, api.OpSeek, api.OpCursor}
	for _, x := range m.in("done by the plan") {
		if x.Client == d.Op.Who && x.Inc == d.Op.Inc && x.N == d.Op.N && kinds[x.Kind] == d.Op.Kind {
			done = x
		}
	}
	same := d.Op
	same.N = 0
	switch results := map[api.Errno]api.Result{api.OK: api.Done, api.ErrFull: api.QuotaFull, api.ErrNone: api.NotFound}; {
	case m.asked != nil && alike(same, *m.asked):
		m.own(d.Outcome)
	case done != nil && d.Outcome.Code == api.ErrStale:
		m.lost(d.Outcome.Owner)
	case done != nil:
		result, ok := results[d.Outcome.Code]
		if !ok {
			result = api.BadRequest
		}
		r := api.Reply{Result: result}
		if result == api.Done {
			r.At = d.Outcome.At
		}
		m.replies(done, r)
	case m.epoch != 0 && m.row().Epoch != m.epoch:
		m.lost(m.row().Owner)
	}
	m.goesOn()
	return m.out
}

// learn has a newer plan.
func (m *model) learn(p api.Plan) {
	m.plan = p
	fetches, _ := m.all()
	for _, f := range fetches {
		l, _ := plan.Find(p, f.Ledger)
		next, reqs := reader.Moved(*f, m.now, l)
		*f = next
		m.reqs(reqs)
	}
	for _, x := range m.in("fetches") {
		if _, ok := plan.Find(p, x.fetch.Ledger); !ok {
			m.replies(x, api.Reply{Result: api.Trimmed, At: x.At})
		}
	}
}

// own is what P21.4 says of the operation that was asked for.
func (m *model) own(x api.Outcome) {
	kind, code := m.asked.Kind, x.Code
	m.asked = nil
	heeded := map[int][]api.Errno{
		api.OpGrab:   {api.OK, api.ErrState, api.ErrFull, api.ErrNone},
		api.OpClose:  {api.OK},
		api.OpLedger: {api.OK, api.ErrFull},
		api.OpChange: {api.OK, api.ErrState, api.ErrFull},
		api.OpRenew:  {api.OK}, api.OpForget: {api.OK, api.ErrState}, api.OpConfirm: {api.OK},
	}
	switch {
	case code == api.ErrStale || kind == api.OpGrab && code != api.OK && slices.Contains(heeded[kind], code):
		m.lost(x.Owner)
	case !slices.Contains(heeded[kind], code):
		m.lost(0)
	case kind == api.OpGrab:
		m.grabbed(x.Epoch)
	case kind == api.OpClose:
		if m.phase == api.OwnRecovers {
			m.phase, m.recovery = api.OwnReplays, nil
		}
		m.writer = nil
	case kind == api.OpLedger && code == api.OK:
		l, _ := plan.Find(m.plan, x.Ledger)
		if next, e := writer.New(l, m.epoch); e == api.OK {
			m.writer = &next
		}
	case kind == api.OpLedger:
		for _, x := range m.publishes() {
			m.replies(x, api.Reply{Result: api.QuotaFull})
		}
	case kind == api.OpChange:
		next, reqs := writer.Changed(*m.writer, m.now, code == api.OK)
		m.writer = &next
		m.reqs(reqs)
	case kind == api.OpForget:
		for at := range m.marks {
			if at < m.row().First {
				delete(m.marks, at)
			}
		}
	case kind == api.OpConfirm:
		m.confirmed(x.At)
	}
}

// grabbed has the channel, by an epoch.
func (m *model) grabbed(epoch uint64) {
	m.epoch, m.phase = epoch, api.OwnReplays
	if l, ok := plan.Open(m.plan, m.channel); ok {
		next, reqs, _ := recovery.New(l, epoch, m.now)
		m.recovery, m.phase = &next, api.OwnRecovers
		m.reqs(reqs)
	}
}

// confirmed goes on with the calls that are asked.
func (m *model) confirmed(trim uint64) {
	for _, x := range m.in("asked") {
		if x.At < trim || x.At < m.row().First {
			m.replies(x, api.Reply{Result: api.Trimmed, At: x.At})
		} else if x.At >= m.length() {
			m.replies(x, api.Reply{Result: api.NotFound, At: x.At})
		} else {
			x.fetch, x.stage = m.fetch(x.At), "fetches"
		}
	}
}

// tick is P21.5.
func (m *model) tick(now uint64, known []api.Place) api.Out {
	m.at(now)
	m.known = known
	if m.phase == api.OwnRecovers {
		next, reqs := recovery.Tick(*m.recovery, now, known...)
		m.recovery = &next
		m.reqs(reqs)
	}
	if m.phase == api.OwnServes && m.writer != nil {
		next, reqs := writer.Tick(*m.writer, now)
		m.writer = &next
		m.reqs(reqs)
	}
	fetches, _ := m.all()
	for _, f := range fetches {
		next, reqs := reader.Tick(*f, now)
		*f = next
		m.reqs(reqs)
	}
	if m.writer != nil && len(m.writer.Waits) > 0 && m.behind(m.writer.Waits[0].Born, 27) {
		m.lost(0)
	}
	m.goesOn()
	return m.out
}

// tell is what P21.6 says of Tell.
func (m *model) tell() api.Owning {
	x := api.Owning{Channel: m.channel, Phase: m.phase, Epoch: m.epoch, Calls: len(m.calls)}
	if m.phase == api.OwnServes {
		x.Length, x.Trim = m.length(), m.row().Trim
	}
	if m.writer != nil {
		x.Ledger, x.Sure, x.Unsure = m.writer.Ledger.Id, m.writer.Sure, uint64(len(m.writer.Waits))
	}
	if m.asked != nil {
		x.Asked = m.asked.Kind
	}
	return x
}

// The calls, held against the model.

// pair is an owner, and the model of it, to which the same is done.
type pair struct {
	t    *testing.T
	o    *owner.Owner
	m    *model
	room int // so much room is behind the ends of the lists that are handed in
}

// newPair tells an owner that has not the channel.
func newPair(t *testing.T, s api.Setup, channel int, p api.Plan) *pair {
	t.Helper()
	o, e := owner.New(s, channel, p)
	if e != api.OK || o == nil {
		t.Fatalf("%+v, %d: %d", s, channel, e)
	}
	x := &pair{t: t, o: o, m: newModel(s, channel, twin(p))}
	x.tells("New")
	return x
}

// tells looks at what the owner tells of itself.
func (p *pair) tells(call string) {
	p.t.Helper()
	if got, want := p.o.Tell(), p.m.tell(); got != want {
		p.t.Fatalf("%s: it tells %+v, not %+v", call, got, want)
	}
	got := p.o.Plan()
	if !alike(got, p.m.plan) {
		p.t.Fatalf("%s: its plan is %+v, not %+v", call, got, p.m.plan)
	}
	spoil(&got)
}

// does has a call be done to both; whatever was handed in, and answered, is spoilt behind it, so that what is kept of it would show.
func does[T any](p *pair, call string, x T, real, words func(T) api.Out) api.Out {
	p.t.Helper()
	in := roomy(x, p.room)
	was := wholes(in)
	got := real(in)
	want := words(twin(x))
	call = fmt.Sprintf("%s(%+v)", call, x)
	if !alike(got, want) {
		p.t.Fatalf("%s: %+v, not %+v", call, got, want)
	}
	if !slices.Equal(wholes(in), was) {
		p.t.Fatalf("%s: what is handed in was changed", call)
	}
	apart(p.t, in, got)
	answer := twin(got)
	spoil(&in)
	spoil(&got)
	p.tells(call)
	return answer
}

// call has the owner be called.
func (p *pair) call(now uint64, c api.Call) api.Out {
	p.t.Helper()
	return does(p, fmt.Sprintf("Call at %d", now), c, func(c api.Call) api.Out { return p.o.Call(now, c) }, func(c api.Call) api.Out { return p.m.call(now, c) })
}

// take has the owner hear a bookie.
func (p *pair) take(now uint64, r api.Resp) api.Out {
	p.t.Helper()
	return does(p, fmt.Sprintf("Take at %d", now), r, func(r api.Resp) api.Out { return p.o.Take(now, r) }, func(r api.Resp) api.Out { return p.m.take(now, r) })
}

// decided has the owner be told of an operation.
func (p *pair) decided(now uint64, d api.Decided) api.Out {
	p.t.Helper()
	return does(p, fmt.Sprintf("Decided at %d", now), d, func(d api.Decided) api.Out { return p.o.Decided(now, d) }, func(d api.Decided) api.Out { return p.m.decided(now, d) })
}

// tick has the owner be told how late it is.
func (p *pair) tick(now uint64, known ...api.Place) api.Out {
	p.t.Helper()
	return does(p, fmt.Sprintf("Tick at %d", now), known, func(l []api.Place) api.Out { return p.o.Tick(now, l...) }, func(l []api.Place) api.Out { return p.m.tick(now, l) })
}

// Values as tests hold them against each other, and have them in memory of their own.

// alike tells whether two values are the same; a list that is none is the same as an empty one.
func alike(a, b any) bool { return fmt.Sprintf("%+v", a) == fmt.Sprintf("%+v", b) }

// twin tells the same value in memory of its own, not by way of the package.
func twin[T any](x T) T { return roomy(x, 0) }

// roomy tells the same value in memory of its own, with room for so many more behind each list's end: what stands there is not zero.
func roomy[T any](x T, room int) T { return deep(reflect.ValueOf(x), room).Interface().(T) }

// deep does what roomy does.
func deep(v reflect.Value, room int) reflect.Value {
	c := reflect.New(v.Type()).Elem()
	c.Set(v)
	switch v.Kind() {
	case reflect.Struct:
		for i := range v.NumField() {
			c.Field(i).Set(deep(v.Field(i), room))
		}
	case reflect.Slice:
		size := v.Len()
		c.Set(reflect.MakeSlice(v.Type(), size+room, size+room))
		for i := range size + room {
			if i < size {
				c.Index(i).Set(deep(v.Index(i), room))
			} else {
				walk(c.Index(i), func(x reflect.Value) { set(x, 0x5eed) })
			}
		}
		c.Set(c.Slice(0, size))
	}
	return c
}

// walk goes over the numbers of a value; it tells its lists.
func walk(v reflect.Value, visit func(reflect.Value)) []reflect.Value {
	var lists []reflect.Value
	switch v.Kind() {
	case reflect.Struct:
		for i := range v.NumField() {
			lists = append(lists, walk(v.Field(i), visit)...)
		}
	case reflect.Slice:
		lists = append(lists, v)
		for i := range v.Len() {
			lists = append(lists, walk(v.Index(i), visit)...)
		}
	default:
		visit(v)
	}
	return lists
}

// set has a number be x, as far as it has room for it.
func set(v reflect.Value, x uint64) {
	if v.CanInt() {
		v.SetInt(int64(x))
	} else {
		v.SetUint(x)
	}
}

// spoil has all numbers of a value be others, those in the room behind its lists' ends, too.
func spoil(x any) {
	for _, l := range walk(reflect.ValueOf(x).Elem(), func(v reflect.Value) { set(v, 99) }) {
		walk(l.Slice(0, l.Cap()), func(v reflect.Value) { set(v, 99) })
	}
}

// wholes tells all numbers of values, those in the room behind lists' ends, too.
func wholes(values ...any) []uint64 {
	var l []uint64
	add := func(x reflect.Value) {
		if x.CanInt() {
			l = append(l, uint64(x.Int()))
		} else {
			l = append(l, x.Uint())
		}
	}
	for _, v := range values {
		for _, x := range walk(reflect.ValueOf(v), add) {
			l = append(l, uint64(x.Len()))
			walk(x.Slice(0, x.Cap()), add)
		}
	}
	return l
}

// apart looks whether no two lists of values have memory in common, the room behind their ends neither.
func apart(t *testing.T, values ...any) {
	t.Helper()
	var spans [][2]uintptr
	for _, v := range values {
		for _, x := range walk(reflect.ValueOf(v), func(reflect.Value) {}) {
			if size := uintptr(x.Cap()) * x.Type().Elem().Size(); size > 0 {
				spans = append(spans, [2]uintptr{x.Pointer(), x.Pointer() + size})
			}
		}
	}
	slices.SortFunc(spans, func(a, b [2]uintptr) int { return int(a[0]) - int(b[0]) })
	for i := 1; i < len(spans); i++ {
		if spans[i][0] < spans[i-1][1] {
			t.Fatalf("memory in common: %+v", values)
		}
	}
}

// one draws one of a row.
func one[T any](d *rand.Rand, l ...T) T { return l[d.IntN(len(l))] }

// some draws some of a row, in any order.
func some[T any](d *rand.Rand, l []T) []T {
	var row []T
	for _, i := range d.Perm(len(l))[:d.IntN(len(l)+1)] {
		row = append(row, l[i])
	}
	return row
}

// edges tells numbers at which something may change.
func edges() []uint64 {
	l := []uint64{1<<32 + 1, 1 << 60, 1<<60 + 1, 1 << 63, 1<<63 - 1, top - 1, top, top + 1}
	for i := range uint64(17) {
		l = append(l, i, -i)
	}
	return l
}

// altered tells a value, one of whose numbers, or lists, was altered.
func altered[T any](d *rand.Rand, x T) T {
	x = twin(x)
	var numbers []reflect.Value
	lists := walk(reflect.ValueOf(&x).Elem(), func(n reflect.Value) { numbers = append(numbers, n) })
	if len(numbers) > 0 && d.IntN(4) > 0 || len(lists) == 0 {
		set(one(d, numbers...), one(d, edges()...))
		return x
	}
	l := one(d, lists...)
	switch n := l.Len(); {
	case n == 0:
		l.Set(reflect.MakeSlice(l.Type(), 1, 1))
	case d.IntN(2) == 0:
		i := d.IntN(n)
		l.Set(reflect.AppendSlice(deep(l.Slice(0, i), 0), l.Slice(i+1, n)))
	default:
		l.Set(reflect.Append(deep(l, 0), deep(l.Index(d.IntN(n)), 0)))
	}
	return x
}

// at tells the place of a node with a disk of that serial.
func at(node int, serial uint64) api.Place { return api.Place{Node: node, Serial: serial} }

// firsts tells the places of those nodes, each with its first disk.
func firsts(nodes ...int) []api.Place {
	var l []api.Place
	for _, n := range nodes {
		l = append(l, at(n, 1))
	}
	return l
}

// frag tells a fragment.
func frag(first uint64, bookies ...api.Place) api.Frag {
	return api.Frag{First: first, Bookies: bookies}
}
