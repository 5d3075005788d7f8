package ops_test

import (
	"fmt"
	"math/rand/v2"
	"reflect"
	"slices"
	"strings"

	"scrivener/api"
	"scrivener/plan"
)

// top is the greatest number that ids, epochs and lives may have.
const top = 1<<62 - 1

// The model: operations as the chapter's words say them, not by way of the package.

// named tells the fields that a kind names.
func named(kind int) []string {
	return strings.Fields([]string{
		1: "Channel Now", 2: "Channel Epoch Now", 3: "Channel Epoch", 4: "Channel Epoch W A Frags",
		5: "Channel Epoch Ledger Frags", 6: "Channel Epoch Ledger At Frags", 7: "Channel Epoch At",
		8: "Channel Epoch Ledger Seen", 9: "Channel Epoch Sub At", 10: "Channel Epoch Sub At",
		11: "Channel Epoch Sub", 12: "Ledger From To",
	}[kind])
}

// count tells whether a number is from 1 to top.
func count(n uint64) bool { return n != 0 && n <= top }

// placeMay tells whether a place may be.
func placeMay(p api.Place) bool { return p.Node >= 1 && p.Node <= 15 && count(p.Serial) }

// fragMay tells whether a fragment may be for w.
func fragMay(w int, f api.Frag) bool {
	nodes := map[int]int{}
	for _, p := range f.Bookies {
		if nodes[p.Node]++; nodes[p.Node] > 1 || !placeMay(p) {
			return false
		}
	}
	return f.First >= 1 && f.First <= 9 && len(f.Bookies) >= w && len(f.Bookies) <= 5
}

// fragsMay tells whether fragments may be for w.
func fragsMay(w int, l []api.Frag) bool {
	for i, f := range l {
		if !fragMay(w, f) || i == 0 && f.First != 1 || i > 0 && f.First <= l[i-1].First {
			return false
		}
	}
	return len(l) >= 1 && len(l) <= 6
}

// fieldsMay tells whether what an operation's kind does not name is zero, or empty.
func fieldsMay(o api.Op) bool {
	of := append(named(o.Kind), "Who", "Inc", "N", "Kind")
	v := reflect.ValueOf(o)
	for i := range v.NumField() {
		f := v.Field(i)
		none := f.IsZero() || f.Kind() == reflect.Slice && f.Len() == 0
		if !none && !slices.Contains(of, v.Type().Field(i).Name) {
			return false
		}
	}
	return true
}

// opMay tells whether an operation may be.
func opMay(o api.Op) bool {
	if o.Kind < 1 || o.Kind > 12 || !fieldsMay(o) {
		return false
	}
	if o.Who < 1 || o.Who > 15 || !count(o.Inc) || !count(o.N) {
		return false
	}
	if o.Epoch > top || o.Ledger > top || o.At > top || o.Now > top {
		return false
	}
	for _, f := range o.Frags {
		if f.First > top {
			return false
		}
		for _, p := range f.Bookies {
			if p.Serial > top {
				return false
			}
		}
	}
	if o.Kind != 12 && (o.Channel < 1 || o.Channel > 3) {
		return false
	}
	switch o.Kind {
	case 4:
		return len(o.Frags) == 1 && o.Frags[0].First == 1 && fragMay(o.W, o.Frags[0]) && 1 <= o.A && o.A <= o.W
	case 5:
		return len(o.Frags) == 1
	case 6:
		return len(o.Frags) >= 1
	case 8:
		return seenMay(o.Seen)
	case 9, 10, 11:
		return o.Sub >= 1 && o.Sub <= 3
	case 12:
		return placeMay(o.From) && placeMay(o.To) && o.From != o.To
	}
	return true
}

// seenMay tells whether an operation may have those marks.
func seenMay(l []api.Mark) bool {
	last, offsets := 0, map[uint64]bool{}
	for _, m := range l {
		if m.Producer <= last || m.Producer > 15 || !count(m.Seq) || offsets[m.Offset] {
			return false
		}
		last, offsets[m.Offset] = m.Producer, true
	}
	return len(l) <= 6
}

// applied tells what becomes of a plan by an operation, and what comes of it.
func applied(p api.Plan, o api.Op) (api.Plan, api.Outcome) {
	p, o = twin(p), twin(o)
	if !plan.May(p) || !opMay(o) {
		return p, api.Outcome{Code: 1}
	}
	others := []api.Past{}
	for _, x := range p.Past {
		if x.Who != o.Who {
			others = append(others, x)
			continue
		}
		if x.Inc == o.Inc && x.N == o.N {
			return p, x.Outcome
		}
		if x.Inc > o.Inc || x.Inc == o.Inc && x.N > o.N {
			return p, api.Outcome{Code: 9}
		}
	}
	if p.Version == top {
		return p, api.Outcome{Code: 3}
	}
	out := api.Outcome{Code: 4}
	if o.Kind == 12 || o.Channel <= len(p.Channels) {
		if stale(p, o) {
			c := p.Channels[o.Channel-1]
			return p, api.Outcome{Code: 8, Epoch: c.Epoch, Owner: c.Owner}
		}
		var q api.Plan
		if q, out = effect(twin(p), o); out.Code == 0 {
			p = q
		}
	}
	p.Version++
	p.Past = append(others, api.Past{Who: o.Who, Inc: o.Inc, N: o.N, Outcome: out})
	slices.SortFunc(p.Past, func(a, b api.Past) int { return a.Who - b.Who })
	return p, out
}

// stale tells whether an operation is of an epoch that is not its channel's.
func stale(p api.Plan, o api.Op) bool {
	return plan.May(p) && opMay(o) && o.Kind != 1 && o.Kind != 12 && o.Channel <= len(p.Channels) &&
		p.Channels[o.Channel-1].Epoch != o.Epoch
}

// at tells the number in the row of the ledger with an Id; -1: there is none.
func at(p api.Plan, id uint64) int {
	return slices.IndexFunc(p.Ledgers, func(l api.Ledger) bool { return l.Id == id })
}

// end tells a channel's closed end.
func end(p api.Plan, c *api.Channel) uint64 {
	sum := c.First
	for _, id := range c.Ledgers {
		sum += p.Ledgers[at(p, id)].Last
	}
	return sum
}

// open tells a channel's last ledger, if it is open; nil: it is not.
func open(p api.Plan, c *api.Channel) *api.Ledger {
	if len(c.Ledgers) == 0 {
		return nil
	}
	if l := &p.Ledgers[at(p, c.Ledgers[len(c.Ledgers)-1])]; l.Closed == 0 {
		return l
	}
	return nil
}

// effect tells what an operation's kind does to a plan; refused, the plan is spoilt.
func effect(p api.Plan, o api.Op) (api.Plan, api.Outcome) {
	if o.Kind == 12 {
		return p, replaced(p, o)
	}
	c := &p.Channels[o.Channel-1]
	l := open(p, c)
	if l != nil && o.Ledger != l.Id && (o.Kind == 5 || o.Kind == 6) {
		l = nil
	}
	var out api.Outcome
	switch o.Kind {
	case 1:
		if c.Epoch > 0 && c.Owner != o.Who && o.Now < c.Renewed+12 {
			return p, api.Outcome{Code: 5, Epoch: c.Epoch, Owner: c.Owner}
		}
		if c.Epoch == top {
			return p, api.Outcome{Code: 3}
		}
		c.Epoch, c.Owner, c.Inc, c.Renewed = c.Epoch+1, o.Who, o.Inc, o.Now
		out.Epoch, out.Owner = c.Epoch, o.Who
	case 2:
		if o.Now > c.Renewed {
			c.Renewed = o.Now
		}
	case 3:
		out.At = c.Trim
	case 4, 5, 6:
		return written(p, c, l, o)
	case 7:
		most := end(p, c)
		if l != nil {
			most += 8
		}
		if o.At > most {
			return p, api.Outcome{Code: 1}
		}
		if o.At > c.Trim {
			c.Trim = o.At
		}
		out.At = c.Trim
	case 8:
		return forgotten(p, c, o)
	default:
		out.At = pointed(c, o)
	}
	return p, out
}

// written does OpLedger, OpChange and OpClose; l is the channel's open ledger, if it is the one that is meant.
func written(p api.Plan, c *api.Channel, l *api.Ledger, o api.Op) (api.Plan, api.Outcome) {
	var out api.Outcome
	switch o.Kind {
	case 4:
		if c.Epoch == 0 || l != nil {
			return p, api.Outcome{Code: 5}
		}
		if len(c.Ledgers) == 8 || p.Next == top+1 || end(p, c)+16 > top {
			return p, api.Outcome{Code: 3}
		}
		out.Ledger = p.Next
		p.Ledgers = append(p.Ledgers, api.Ledger{Id: p.Next, W: o.W, A: o.A, Frags: o.Frags})
		c.Ledgers = append(c.Ledgers, p.Next)
		p.Next++
	case 5:
		if l == nil || !fragMay(l.W, o.Frags[0]) || o.Frags[0].First < l.Frags[len(l.Frags)-1].First {
			return p, api.Outcome{Code: 5}
		}
		if l.Frags[len(l.Frags)-1].First == o.Frags[0].First {
			l.Frags = l.Frags[:len(l.Frags)-1]
		}
		if l.Frags = append(l.Frags, o.Frags[0]); len(l.Frags) > 6 {
			return p, api.Outcome{Code: 3}
		}
	case 6:
		if l == nil || !fragsMay(l.W, o.Frags) || o.At > 8 {
			return p, api.Outcome{Code: 5}
		}
		l.Frags, l.Closed, l.Last = o.Frags, 1, o.At
		if c.Trim > end(p, c) || end(p, c) > top-8 {
			return p, api.Outcome{Code: 5}
		}
	}
	return p, out
}

// stays tells the first ledger of a channel that is open, or has entries that stay; 0: none is.
func stays(p api.Plan, c api.Channel) uint64 {
	first := c.First
	for _, id := range c.Ledgers {
		l := p.Ledgers[at(p, id)]
		if first += l.Last; l.Closed == 0 || first > c.Trim {
			return id
		}
	}
	return 0
}

// forgotten does OpForget.
func forgotten(p api.Plan, c *api.Channel, o api.Op) (api.Plan, api.Outcome) {
	if o.Ledger != stays(p, *c) {
		return p, api.Outcome{Code: 5}
	}
	for len(c.Ledgers) > 0 && c.Ledgers[0] != o.Ledger {
		i := at(p, c.Ledgers[0])
		c.First += p.Ledgers[i].Last
		c.Ledgers = c.Ledgers[1:]
		p.Ledgers = append(p.Ledgers[:i], p.Ledgers[i+1:]...)
	}
	for _, m := range o.Seen {
		if m.Offset >= c.First {
			return p, api.Outcome{Code: 5}
		}
	}
	c.Seen = o.Seen
	return p, api.Outcome{At: c.First}
}

// pointed does OpAck, OpSeek and OpCursor; it tells the cursor.
func pointed(c *api.Channel, o api.Op) uint64 {
	all := map[int]uint64{}
	for _, x := range c.Cursors {
		all[x.Sub] = x.At
	}
	switch {
	case o.Kind == 9:
		all[o.Sub] = max(all[o.Sub], o.At)
	case o.Kind == 10:
		all[o.Sub] = o.At
	}
	c.Cursors = nil
	for sub := 1; sub <= 3; sub++ {
		if x, ok := all[sub]; ok {
			c.Cursors = append(c.Cursors, api.Cursor{Sub: sub, At: x})
		}
	}
	return all[o.Sub]
}

// replaced does OpReplace.
func replaced(p api.Plan, o api.Op) api.Outcome {
	i := at(p, o.Ledger)
	if i < 0 || p.Ledgers[i].Closed == 0 {
		return api.Outcome{Code: 5}
	}
	n := 0
	for _, f := range p.Ledgers[i].Frags {
		for k, x := range f.Bookies {
			if x != o.From {
				continue
			}
			n++
			f.Bookies[k] = o.To
			for j, y := range f.Bookies {
				if j != k && y.Node == o.To.Node {
					return api.Outcome{Code: 5}
				}
			}
		}
	}
	if n == 0 {
		return api.Outcome{Code: 5}
	}
	return api.Outcome{}
}

// Values as tests hold them against each other, and have them in memory of their own.

// alike tells whether two values are the same; a list that is none is the same as an empty one.
func alike(a, b any) bool {
	if p, ok := a.(api.Plan); ok {
		return plan.Same(p, b.(api.Plan))
	}
	return fmt.Sprintf("%+v", a) == fmt.Sprintf("%+v", b)
}

// twin tells the same value in memory of its own, not by way of the package.
func twin[T any](x T) T { return roomy(x, 0) }

// roomy tells the same value in memory of its own, with room for so many more behind each list's end: what stands there is not zero.
func roomy[T any](x T, room int) T {
	return deep(reflect.ValueOf(x), room).Interface().(T)
}

// deep does what roomy does.
func deep(v reflect.Value, room int) reflect.Value {
	c := reflect.New(v.Type()).Elem()
	c.Set(v)
	switch v.Kind() {
	case reflect.Struct:
		for i := range v.NumField() {
			c.Field(i).Set(deep(v.Field(i), room))
		}
	case reflect.Slice:
		c.Set(reflect.MakeSlice(v.Type(), v.Len()+room, v.Len()+room))
		walk(c.Slice(v.Len(), v.Len()+room), func(x reflect.Value) { set(x, 0x5eed) })
		for i := range v.Len() {
			c.Index(i).Set(deep(v.Index(i), room))
		}
		c.Set(c.Slice(0, v.Len()))
	}
	return c
}

// walk goes over the numbers of a value; it tells its lists.
func walk(v reflect.Value, visit func(reflect.Value)) []reflect.Value {
	var lists []reflect.Value
	switch v.Kind() {
	case reflect.Struct:
		for i := range v.NumField() {
			lists = append(lists, walk(v.Field(i), visit)...)
		}
	case reflect.Slice:
		lists = append(lists, v)
		for i := range v.Len() {
			lists = append(lists, walk(v.Index(i), visit)...)
		}
	default:
		visit(v)
	}
	return lists
}

// set has a number be x; one that may be below 0 is that, where x is beyond it by 2^64.
func set(v reflect.Value, x uint64) {
	if v.CanInt() {
		v.SetInt(int64(x))
	} else {
		v.SetUint(x)
	}
}

// Plans and operations of all kinds, drawn from a row of chance that is the same at each run.

// one draws one of a row.
func one[T any](d *rand.Rand, l ...T) T { return l[d.IntN(len(l))] }

// drawFrag draws a fragment that may be for w, on few nodes, so that the same ones come again.
func drawFrag(d *rand.Rand, w int, first uint64) api.Frag {
	f := api.Frag{First: first}
	for _, i := range d.Perm(6)[:w+d.IntN(6-w)] {
		f.Bookies = append(f.Bookies, api.Place{Node: 7 + i, Serial: one[uint64](d, 1, 1, 1, 2, top)})
	}
	return f
}

// drawFrags draws fragments that may be for w, often as many as there may be.
func drawFrags(d *rand.Rand, w int) []api.Frag {
	l := []api.Frag{drawFrag(d, w, 1)}
	for first := uint64(2); first <= 9 && len(l) < 6; first++ {
		if d.IntN(3) == 0 {
			l = append(l, drawFrag(d, w, first))
		}
	}
	return l
}

// drawLedger draws a ledger that may be.
func drawLedger(d *rand.Rand, id uint64, closed int) api.Ledger {
	l := api.Ledger{Id: id, W: 1 + d.IntN(5), Closed: closed}
	l.A = 1 + d.IntN(l.W)
	l.Frags = drawFrags(d, l.W)
	if closed == 1 {
		l.Last = d.Uint64N(9)
	}
	return l
}

// drawMarks draws marks that an operation may have, their offsets below most.
func drawMarks(d *rand.Rand, most uint64) []api.Mark {
	var l []api.Mark
	for producer := 1; producer <= 15 && len(l) < 6; producer++ {
		back := uint64(1 + len(l) + d.IntN(2)*7)
		if d.IntN(4) == 0 && back <= most && !slices.ContainsFunc(l, func(m api.Mark) bool { return m.Offset == most-back }) {
			l = append(l, api.Mark{Producer: producer, Seq: one[uint64](d, 1, 5, top), Offset: most - back})
		}
	}
	return l
}

// drawPlan draws a plan that may be.
func drawPlan(d *rand.Rand) api.Plan {
	p := api.Plan{Version: one[uint64](d, 0, 1, 40, top-2, top-1, top), Channels: make([]api.Channel, 1+d.IntN(3))}
	var turns []int // whose ledgers stand one behind the other
	for i := range p.Channels {
		c := &p.Channels[i]
		c.Renewed = one[uint64](d, 0, 3, 20, top)
		if d.IntN(6) > 0 {
			c.Epoch, c.Owner, c.Inc = one[uint64](d, 1, 2, 9, top-1, top), 4+d.IntN(3), one[uint64](d, 1, 2, top)
			turns = append(turns, slices.Repeat([]int{i}, one(d, 0, 1, 2, 3, 7, 8))...)
		}
	}
	d.Shuffle(len(turns), func(i, k int) { turns[i], turns[k] = turns[k], turns[i] })
	id := one[uint64](d, 0, 0, 60, top-24)
	for _, i := range turns {
		id++
		p.Channels[i].Ledgers = append(p.Channels[i].Ledgers, id)
		p.Ledgers = append(p.Ledgers, drawLedger(d, id, 1))
	}
	for _, c := range p.Channels {
		if n := len(c.Ledgers); n > 0 && d.IntN(2) == 0 {
			id := c.Ledgers[n-1]
			p.Ledgers[at(p, id)] = drawLedger(d, id, 0)
		}
	}
	p.Next = min(one[uint64](d, id+1, id+1, id+2, top+1), top+1)
	for i := range p.Channels {
		drawOffsets(d, p, &p.Channels[i])
	}
	for who := 1; who <= 15; who++ {
		if d.IntN(2) == 0 {
			p.Past = append(p.Past, api.Past{Who: who, Inc: one[uint64](d, 1, 2, top), N: one[uint64](d, 1, 2, 3, top),
				Outcome: api.Outcome{Code: api.Errno(d.IntN(10)), Epoch: d.Uint64N(3), At: d.Uint64N(3), Ledger: d.Uint64N(3), Owner: d.IntN(16)}})
		}
	}
	return p
}

// drawOffsets draws a channel's First, Trim, Seen and Cursors.
func drawOffsets(d *rand.Rand, p api.Plan, c *api.Channel) {
	c.First = 0
	entries := end(p, c)
	most := entries
	if open(p, c) != nil {
		most += 8
	}
	c.First = one(d, d.Uint64N(9), d.Uint64N(100), top-8-entries-d.Uint64N(20))
	c.Trim = c.First + one(d, d.Uint64N(most+1), d.Uint64N(most+1), most)
	c.Seen = drawMarks(d, c.First)
	for sub := 1; sub <= 3; sub++ {
		if d.IntN(2) == 0 {
			c.Cursors = append(c.Cursors, api.Cursor{Sub: sub, At: one[uint64](d, 0, 1, 9, top)})
		}
	}
}

// drawOp draws an operation on a plan: it may be, and more often than not it may be done.
func drawOp(d *rand.Rand, p api.Plan) api.Op {
	o := api.Op{Who: 1 + d.IntN(15), Inc: one[uint64](d, 1, 2, 3, top), N: one[uint64](d, 1, 2, 3, 4, 5, top), Kind: 1 + d.IntN(12)}
	if d.IntN(2) == 0 {
		o.Who = 4 + d.IntN(3)
	}
	var c api.Channel
	if o.Kind != 12 {
		o.Channel = 1 + d.IntN(3)
		if d.IntN(8) > 0 {
			o.Channel = 1 + d.IntN(len(p.Channels))
		}
		if o.Channel <= len(p.Channels) {
			c = p.Channels[o.Channel-1]
		}
	}
	has := func(field string) bool { return slices.Contains(named(o.Kind), field) }
	if has("Epoch") {
		o.Epoch = c.Epoch + one[uint64](d, 0, 0, 0, 0, 0, 0, 0, 1)
		o.Epoch = min(o.Epoch, top)
	}
	if has("Ledger") {
		o.Ledger = d.Uint64N(4)
		if len(c.Ledgers) > 0 && d.IntN(8) > 0 {
			o.Ledger = one(d, one(d, c.Ledgers...), c.Ledgers[len(c.Ledgers)-1])
		}
		if o.Kind == 8 && d.IntN(3) > 0 {
			o.Ledger = stays(p, c)
		}
	}
	if has("Now") {
		o.Now = min(top, one(d, c.Renewed+10+d.Uint64N(4), d.Uint64N(40)))
	}
	if has("Sub") {
		o.Sub = 1 + d.IntN(3)
	}
	drawRest(d, p, c, &o, has)
	return o
}

// drawRest draws an operation's At, Frags, Seen, From and To.
func drawRest(d *rand.Rand, p api.Plan, c api.Channel, o *api.Op, has func(string) bool) {
	if has("At") {
		o.At = min(top, one(d, c.Trim+d.Uint64N(12), c.Trim-min(c.Trim, d.Uint64N(12)), d.Uint64N(10)))
	}
	if o.Kind == 6 {
		o.At = d.Uint64N(10)
	}
	w := 1 + d.IntN(5)
	if i := at(p, o.Ledger); i >= 0 && d.IntN(4) > 0 {
		w = p.Ledgers[i].W
	}
	switch o.Kind {
	case 4:
		o.W, o.A = w, 1+d.IntN(w)
		o.Frags = []api.Frag{drawFrag(d, w, 1)}
	case 5:
		o.Frags = []api.Frag{drawFrag(d, w, 1+d.Uint64N(10))}
	case 6:
		o.Frags = drawFrags(d, w)
	case 8:
		o.Seen = drawMarks(d, min(top, c.First+d.Uint64N(9)))
		if d.IntN(2) == 0 {
			o.Seen = drawMarks(d, c.First)
		}
	case 12:
		o.From, o.To = api.Place{Node: 7 + d.IntN(6), Serial: 1}, api.Place{Node: 7 + d.IntN(6), Serial: 2}
		if len(p.Ledgers) > 0 {
			l := one(d, p.Ledgers...)
			o.Ledger = l.Id
			if d.IntN(4) > 0 {
				o.From = one(d, one(d, l.Frags...).Bookies...)
				o.To = api.Place{Node: one(d, 1, o.From.Node, 7+d.IntN(6)), Serial: 3}
			}
		}
	}
}

// edges tells numbers at which something may change.
func edges() []uint64 {
	l := []uint64{1<<32 + 1, 1 << 63, top + 1, top + 2}
	for i := uint64(0); i <= 17; i++ {
		l = append(l, i, top-17+i, -i)
	}
	return l
}

// altered tells a value, one of whose numbers, or lists, was altered.
func altered[T any](d *rand.Rand, x T) T {
	x = twin(x)
	var numbers []reflect.Value
	v := reflect.ValueOf(&x).Elem()
	lists := walk(v, func(n reflect.Value) { numbers = append(numbers, n) })
	if len(lists) == 0 || d.IntN(4) > 0 {
		set(one(d, numbers...), one(d, edges()...))
		return x
	}
	l := one(d, lists...)
	switch n := l.Len(); {
	case n == 0:
		l.Set(reflect.MakeSlice(l.Type(), 1, 1))
	case d.IntN(2) == 0:
		i := d.IntN(n)
		l.Set(reflect.AppendSlice(deep(l.Slice(0, i), 0), l.Slice(i+1, n)))
	default:
		l.Set(reflect.Append(deep(l, 0), deep(l.Index(d.IntN(n)), 0)))
	}
	return x
}
