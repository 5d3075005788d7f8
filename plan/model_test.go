package plan_test

import (
	"encoding/binary"
	"math/big"
	"math/rand/v2"
	"reflect"
	"slices"

	"scrivener/api"
)

// top is the greatest number that ids, epochs and lives may have.
const top = 1<<62 - 1

// The model: a plan as the chapter's words say it, not by way of the package.

// one tells whether a number is from 1 to top.
func one(n uint64) bool { return n != 0 && n <= top }

// isNode tells whether a node may have that number.
func isNode(n int) bool { return n > 0 && n < 16 }

// fragsMay tells whether fragments may be for w.
func fragsMay(w int, l []api.Frag) bool {
	if len(l) == 0 || len(l) > 6 || l[0].First != 1 {
		return false
	}
	for i, f := range l {
		if f.First == 0 || f.First > 9 || i > 0 && f.First <= l[i-1].First || len(f.Bookies) < w || len(f.Bookies) > 5 {
			return false
		}
		for k, p := range f.Bookies {
			if !isNode(p.Node) || !one(p.Serial) {
				return false
			}
			for _, q := range f.Bookies[:k] {
				if p.Node == q.Node {
					return false
				}
			}
		}
	}
	return true
}

// ledgerMay tells whether a ledger may be.
func ledgerMay(l api.Ledger) bool {
	if !one(l.Id) || l.A < 1 || l.A > l.W || l.W > 5 || l.Last > 8 {
		return false
	}
	if l.Closed != 1 && (l.Closed != 0 || l.Last != 0) {
		return false
	}
	return fragsMay(l.W, l.Frags)
}

// found tells the number in the row of the first ledger with an Id; -1: there is none.
func found(p api.Plan, id uint64) int {
	for i, l := range p.Ledgers {
		if l.Id == id {
			return i
		}
	}
	return -1
}

// closedEnd tells a channel's closed end as it stands, and the same where nothing goes round.
func closedEnd(p api.Plan, c api.Channel) (uint64, *big.Int) {
	sum := new(big.Int).SetUint64(c.First)
	for _, id := range c.Ledgers {
		if i := found(p, id); i >= 0 {
			sum.Add(sum, new(big.Int).SetUint64(p.Ledgers[i].Last))
		}
	}
	round := new(big.Int).And(sum, new(big.Int).SetUint64(1<<64-1))
	return round.Uint64(), round
}

// openAt tells the number in the row of a channel's last ledger, if it is there, and not closed; -1: else.
func openAt(p api.Plan, c api.Channel) int {
	if n := len(c.Ledgers); n > 0 {
		if i := found(p, c.Ledgers[n-1]); i >= 0 && p.Ledgers[i].Closed != 1 {
			return i
		}
	}
	return -1
}

// marksMay tells whether a channel's Seen and Cursors may be.
func marksMay(c api.Channel) bool {
	offsets := map[uint64]bool{}
	for i, m := range c.Seen {
		if !isNode(m.Producer) || i > 0 && m.Producer <= c.Seen[i-1].Producer || !one(m.Seq) || m.Offset >= c.First || offsets[m.Offset] {
			return false
		}
		offsets[m.Offset] = true
	}
	for i, x := range c.Cursors {
		if x.Sub < 1 || x.Sub > 3 || i > 0 && x.Sub <= c.Cursors[i-1].Sub || x.At > top {
			return false
		}
	}
	return len(c.Seen) <= 6
}

// channelMay tells whether a channel of a plan may be.
func channelMay(p api.Plan, c api.Channel) bool {
	if c.Epoch > top || c.Renewed > top || len(c.Ledgers) > 8 {
		return false
	}
	if c.Epoch == 0 && (c.Owner != 0 || c.Inc != 0 || len(c.Ledgers) > 0) {
		return false
	}
	if c.Epoch > 0 && (!isNode(c.Owner) || !one(c.Inc)) {
		return false
	}
	for k, id := range c.Ledgers {
		i := found(p, id)
		if i < 0 || k > 0 && id <= c.Ledgers[k-1] {
			return false
		}
		if k < len(c.Ledgers)-1 && p.Ledgers[i].Closed != 1 {
			return false
		}
	}
	_, end := closedEnd(p, c)
	most := end
	if openAt(p, c) >= 0 {
		most = new(big.Int).Add(end, big.NewInt(8))
	}
	trim, first := new(big.Int).SetUint64(c.Trim), new(big.Int).SetUint64(c.First)
	if first.Cmp(trim) > 0 || trim.Cmp(most) > 0 || new(big.Int).Add(end, big.NewInt(8)).Cmp(big.NewInt(top)) > 0 {
		return false
	}
	return marksMay(c)
}

// planMay tells whether a plan may be.
func planMay(p api.Plan) bool {
	if p.Version > top || p.Next == 0 || p.Next > top+1 || len(p.Channels) == 0 || len(p.Channels) > 3 {
		return false
	}
	names := map[uint64]int{}
	for _, c := range p.Channels {
		for _, id := range c.Ledgers {
			names[id]++
		}
	}
	for i, l := range p.Ledgers {
		if i > 0 && l.Id <= p.Ledgers[i-1].Id || !ledgerMay(l) || l.Id >= p.Next || names[l.Id] != 1 {
			return false
		}
	}
	for _, c := range p.Channels {
		if !channelMay(p, c) {
			return false
		}
	}
	for i, x := range p.Past {
		o := x.Outcome
		if !isNode(x.Who) || i > 0 && x.Who <= p.Past[i-1].Who || !one(x.Inc) || !one(x.N) {
			return false
		}
		if o.Code < 0 || o.Code > 9 || o.Owner < 0 || o.Owner > 15 || o.Epoch > top || o.At > top || o.Ledger > top {
			return false
		}
	}
	return true
}

// bytesOf tells a plan's bytes, of whatever plan; a number below 0 counts as one beyond it by 2^64.
func bytesOf(p api.Plan) []byte {
	var b []byte
	put := func(l ...uint64) {
		for _, x := range l {
			b = binary.AppendUvarint(b, x)
		}
	}
	put(p.Version, p.Next, uint64(len(p.Channels)))
	for _, c := range p.Channels {
		put(c.Epoch, uint64(c.Owner), c.Inc, c.Renewed, c.First, c.Trim, uint64(len(c.Ledgers)))
		put(c.Ledgers...)
		put(uint64(len(c.Seen)))
		for _, m := range c.Seen {
			put(uint64(m.Producer), m.Seq, m.Offset)
		}
		put(uint64(len(c.Cursors)))
		for _, x := range c.Cursors {
			put(uint64(x.Sub), x.At)
		}
	}
	put(uint64(len(p.Ledgers)))
	for _, l := range p.Ledgers {
		put(l.Id, uint64(l.W), uint64(l.A), uint64(l.Closed), l.Last, uint64(len(l.Frags)))
		for _, f := range l.Frags {
			put(f.First, uint64(len(f.Bookies)))
			for _, q := range f.Bookies {
				put(uint64(q.Node), q.Serial)
			}
		}
	}
	put(uint64(len(p.Past)))
	for _, x := range p.Past {
		o := x.Outcome
		put(uint64(x.Who), x.Inc, x.N, uint64(o.Code), o.Epoch, o.At, o.Ledger, uint64(o.Owner))
	}
	return b
}

// numbers tells the numbers that bytes are; false: they are not just numbers, each as code writes it.
func numbers(b []byte) ([]uint64, bool) {
	var l []uint64
	for len(b) > 0 {
		x, n := binary.Uvarint(b)
		if n <= 0 || len(binary.AppendUvarint(nil, x)) != n {
			return nil, false
		}
		l, b = append(l, x), b[n:]
	}
	return l, true
}

// planOf tells the plan that has those bytes, and may be; false: none has.
func planOf(b []byte) (api.Plan, bool) {
	l, ok := numbers(b)
	next := func() uint64 {
		if len(l) == 0 {
			ok = false
			return 0
		}
		x := l[0]
		l = l[1:]
		return x
	}
	many := func(one func()) {
		for n := next(); n > 0 && ok; n-- {
			one()
		}
	}
	small := func() int {
		x := next()
		ok = ok && x <= 1000
		return int(x)
	}
	var p api.Plan
	p.Version, p.Next = next(), next()
	many(func() {
		var c api.Channel
		c.Epoch, c.Owner, c.Inc, c.Renewed = next(), small(), next(), next()
		c.First, c.Trim = next(), next()
		many(func() { c.Ledgers = append(c.Ledgers, next()) })
		many(func() {
			var m api.Mark
			m.Producer, m.Seq, m.Offset = small(), next(), next()
			c.Seen = append(c.Seen, m)
		})
		many(func() {
			var x api.Cursor
			x.Sub, x.At = small(), next()
			c.Cursors = append(c.Cursors, x)
		})
		p.Channels = append(p.Channels, c)
	})
	many(func() {
		var g api.Ledger
		g.Id, g.W, g.A, g.Closed, g.Last = next(), small(), small(), small(), next()
		many(func() {
			var f api.Frag
			f.First = next()
			many(func() {
				var q api.Place
				q.Node, q.Serial = small(), next()
				f.Bookies = append(f.Bookies, q)
			})
			g.Frags = append(g.Frags, f)
		})
		p.Ledgers = append(p.Ledgers, g)
	})
	many(func() {
		var x api.Past
		o := &x.Outcome
		x.Who, x.Inc, x.N = small(), next(), next()
		o.Code, o.Epoch, o.At, o.Ledger, o.Owner = api.Errno(small()), next(), next(), next(), small()
		p.Past = append(p.Past, x)
	})
	if !ok || len(l) > 0 || !planMay(p) {
		return api.Plan{}, false
	}
	return p, true
}

// Plans of all kinds, drawn from a row of chance that is the same at each run.

// count draws a number from 1 to top, those at the edges often.
func count(d *rand.Rand) uint64 {
	edges := []uint64{1, 2, 8, 127, 128, 16383, 16384, 1 << 32, top - 1, top}
	if i := d.IntN(2 * len(edges)); i < len(edges) {
		return edges[i]
	}
	return 1 + d.Uint64N(top)>>d.IntN(62)
}

// some draws so many unlike numbers from 1 to most, rising.
func some(d *rand.Rand, n, most int) []int {
	l := d.Perm(most)[:n]
	for i := range l {
		l[i]++
	}
	slices.Sort(l)
	return l
}

// drawFrags draws fragments that may be for w.
func drawFrags(d *rand.Rand, w int) []api.Frag {
	firsts := []uint64{1}
	for _, n := range some(d, d.IntN(6), 8) {
		firsts = append(firsts, uint64(n)+1)
	}
	var l []api.Frag
	for _, first := range firsts {
		f := api.Frag{First: first}
		for _, i := range d.Perm(15)[:w+d.IntN(6-w)] {
			f.Bookies = append(f.Bookies, api.Place{Node: 1 + i, Serial: count(d)})
		}
		l = append(l, f)
	}
	return l
}

// drawLedger draws a ledger that may be.
func drawLedger(d *rand.Rand, id uint64, closed int) api.Ledger {
	l := api.Ledger{Id: id, W: 1 + d.IntN(5), Closed: closed}
	l.A = 1 + d.IntN(l.W)
	l.Frags = drawFrags(d, l.W)
	if closed == 1 {
		l.Last = d.Uint64N(9)
	}
	return l
}

// drawOffsets draws a channel's First, Trim, Seen and Cursors, with ledgers that have that many entries, the last one open or not.
func drawOffsets(d *rand.Rand, c *api.Channel, entries uint64, open bool) {
	room := top - 8 - entries // the greatest First that there may be
	switch d.IntN(4) {
	case 0:
		c.First = d.Uint64N(9)
	case 1:
		c.First = room - d.Uint64N(9)
	case 2:
		c.First = room
	default:
		c.First = min(count(d), room)
	}
	if open {
		entries += 8
	}
	c.Trim = c.First + d.Uint64N(entries+1)
	if d.IntN(4) == 0 {
		c.Trim = c.First + entries
	}
	offsets := d.Perm(20)
	for _, n := range some(d, d.IntN(7), 15) {
		offset := uint64(offsets[len(c.Seen)])
		if d.IntN(2) == 0 {
			offset = c.First - 1 - offset
		}
		if offset < c.First && !slices.ContainsFunc(c.Seen, func(m api.Mark) bool { return m.Offset == offset }) {
			c.Seen = append(c.Seen, api.Mark{Producer: n, Seq: count(d), Offset: offset})
		}
	}
	for _, n := range some(d, d.IntN(4), 3) {
		c.Cursors = append(c.Cursors, api.Cursor{Sub: n, At: d.Uint64N(2) * count(d)})
	}
}

// drawPlan draws a plan that may be.
func drawPlan(d *rand.Rand) api.Plan {
	p := api.Plan{Version: d.Uint64N(2) * count(d), Channels: make([]api.Channel, 1+d.IntN(3))}
	id, step := uint64(0), []uint64{1, 5, 1 << 50, 1 << 57}[d.IntN(4)]
	left := make([]int, len(p.Channels)) // how many ledgers each channel is still to have
	lasts := make([]uint64, len(p.Channels))
	open := make([]bool, len(p.Channels))
	for i := range p.Channels {
		c := &p.Channels[i]
		c.Renewed = d.Uint64N(2) * count(d)
		if d.IntN(4) > 0 {
			c.Epoch, c.Owner, c.Inc = count(d), 1+d.IntN(15), count(d)
			left[i] = d.IntN(9)
		}
	}
	for slices.Max(left) > 0 {
		i := d.IntN(len(left))
		if left[i] == 0 {
			continue
		}
		left[i]--
		id += 1 + d.Uint64N(step)
		l := drawLedger(d, id, 1)
		if left[i] == 0 && d.IntN(2) == 0 {
			l, open[i] = drawLedger(d, id, 0), true
		}
		lasts[i] += l.Last
		p.Ledgers = append(p.Ledgers, l)
		p.Channels[i].Ledgers = append(p.Channels[i].Ledgers, id)
	}
	for i := range p.Channels {
		drawOffsets(d, &p.Channels[i], lasts[i], open[i])
	}
	p.Next = []uint64{id + 1, id + 1 + d.Uint64N(9), top + 1}[d.IntN(3)]
	for _, n := range some(d, d.IntN(16), 15) {
		o := api.Outcome{Code: api.Errno(d.IntN(10)), Epoch: d.Uint64N(2) * count(d), At: count(d), Ledger: count(d), Owner: d.IntN(16)}
		p.Past = append(p.Past, api.Past{Who: n, Inc: count(d), N: count(d), Outcome: o})
	}
	return p
}

// greatest tells a plan that may be, and has as much as there may be of everything, with numbers as great as they may be.
func greatest() api.Plan {
	p := api.Plan{Version: top, Next: top + 1}
	var frags []api.Frag
	for first := uint64(1); first <= 6; first++ {
		f := api.Frag{First: first}
		for n := 11; n <= 15; n++ {
			f.Bookies = append(f.Bookies, api.Place{Node: n, Serial: top})
		}
		frags = append(frags, f)
	}
	for range 3 {
		c := api.Channel{Epoch: top, Owner: 15, Inc: top, Renewed: top, First: top - 8 - 64, Trim: top - 8}
		for n := 10; n <= 15; n++ {
			c.Seen = append(c.Seen, api.Mark{Producer: n, Seq: top, Offset: c.First - uint64(n)})
		}
		for n := 1; n <= 3; n++ {
			c.Cursors = append(c.Cursors, api.Cursor{Sub: n, At: top})
		}
		for range 8 {
			id := top - 23 + uint64(len(p.Ledgers))
			c.Ledgers = append(c.Ledgers, id)
			p.Ledgers = append(p.Ledgers, api.Ledger{Id: id, W: 5, A: 5, Frags: frags, Closed: 1, Last: 8})
		}
		p.Channels = append(p.Channels, c)
	}
	for n := 1; n <= 15; n++ {
		o := api.Outcome{Code: 9, Epoch: top, At: top, Ledger: top, Owner: 15}
		p.Past = append(p.Past, api.Past{Who: n, Inc: top, N: top, Outcome: o})
	}
	return twin(p)
}

// twin tells the same plan in memory of its own, not by way of the package; behind no list's end there is room.
func twin(p api.Plan) api.Plan {
	return deep(reflect.ValueOf(p), 0).Interface().(api.Plan)
}

// roomy tells the same plan, with room for so many more behind each list's end.
func roomy(p api.Plan, room int) api.Plan {
	return deep(reflect.ValueOf(p), room).Interface().(api.Plan)
}

// deep tells the same value in memory of its own. What stands in the room behind a list's end is not zero, so that one sees whether it is written.
func deep(v reflect.Value, room int) reflect.Value {
	c := reflect.New(v.Type()).Elem()
	switch v.Kind() {
	case reflect.Struct:
		for i := range v.NumField() {
			c.Field(i).Set(deep(v.Field(i), room))
		}
	case reflect.Slice:
		if v.Len() == 0 && room == 0 {
			return c
		}
		c.Set(reflect.MakeSlice(v.Type(), v.Len()+room, v.Len()+room))
		for i := range c.Len() {
			if i < v.Len() {
				c.Index(i).Set(deep(v.Index(i), room))
			} else {
				mark(c.Index(i))
			}
		}
		c.Set(c.Slice(0, v.Len()))
	default:
		c.Set(v)
	}
	return c
}

// mark has each number of a value be one that is seldom.
func mark(v reflect.Value) {
	for _, x := range leaves(v) {
		setNumber(x, 0x5eed)
	}
}

// leaves tells all numbers of a value, where they stand.
func leaves(v reflect.Value) []reflect.Value {
	var l []reflect.Value
	switch v.Kind() {
	case reflect.Struct:
		for i := range v.NumField() {
			l = append(l, leaves(v.Field(i))...)
		}
	case reflect.Slice:
		for i := range v.Len() {
			l = append(l, leaves(v.Index(i))...)
		}
	default:
		l = append(l, v)
	}
	return l
}

// lists tells all lists of a value, where they stand.
func lists(v reflect.Value) []reflect.Value {
	var l []reflect.Value
	switch v.Kind() {
	case reflect.Struct:
		for i := range v.NumField() {
			l = append(l, lists(v.Field(i))...)
		}
	case reflect.Slice:
		l = append(l, v)
		for i := range v.Len() {
			l = append(l, lists(v.Index(i))...)
		}
	}
	return l
}

// number tells a number, as one of 64 bits.
func number(v reflect.Value) uint64 {
	if v.CanInt() {
		return uint64(v.Int())
	}
	return v.Uint()
}

// setNumber has a number be x; one that may be below 0 is that, where x is beyond it by 2^64.
func setNumber(v reflect.Value, x uint64) {
	if v.CanInt() {
		v.SetInt(int64(x))
	} else {
		v.SetUint(x)
	}
}
