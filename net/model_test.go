package net_test

import (
	"math/rand/v2"
	"slices"
	"strconv"
	"testing"

	"scrivener/api"
	"scrivener/net"
)

// mail is a message, as it was sent.
type mail struct {
	from, to int
	text     string
}

// told tells a message as mail.
func told(m api.Message) mail { return mail{m.From, m.To, string(m.Bytes)} }

// model is a net as the chapter's words say it.
type model struct {
	nodes int
	cut   [][2]int // each link that is cut, both ways
	bag   []mail
}

// pair tells whether they are two unlike nodes.
func (m *model) pair(a, b int) bool {
	return a >= 1 && a <= m.nodes && b >= 1 && b <= m.nodes && a != b
}

// open tells whether their link is open.
func (m *model) open(a, b int) bool { return m.pair(a, b) && !slices.Contains(m.cut, [2]int{a, b}) }

// turn tells what Cut and Heal should be answered.
func (m *model) turn(a, b int, cut bool) api.Errno {
	if !m.pair(a, b) {
		return api.ErrArg
	}
	m.cut = slices.DeleteFunc(m.cut, func(p [2]int) bool { return p == [2]int{a, b} || p == [2]int{b, a} })
	if cut {
		m.cut = append(m.cut, [2]int{a, b}, [2]int{b, a})
	}
	return api.OK
}

// send tells what Send should be answered.
func (m *model) send(x mail) api.Errno {
	if !m.pair(x.from, x.to) {
		return api.ErrArg
	}
	if len(x.text) > 16384 {
		return api.ErrLong
	}
	if !m.open(x.from, x.to) {
		return api.ErrDown
	}
	if len(m.bag) == 64 {
		return api.ErrFull
	}
	m.bag = append(m.bag, x)
	return api.OK
}

// at tells what At should be answered.
func (m *model) at(i int) (mail, api.Errno) {
	if i < 0 || i >= len(m.bag) {
		return mail{}, api.ErrNone
	}
	return m.bag[i], api.OK
}

// without tells the bag without one.
func (m *model) without(i int) []mail {
	return slices.Concat(m.bag[:i], m.bag[i+1:])
}

// deliver tells what Deliver should be answered.
func (m *model) deliver(i int) (mail, api.Errno) {
	x, e := m.at(i)
	if e != api.OK {
		return x, e
	}
	if !m.open(x.from, x.to) {
		return mail{}, api.ErrDown
	}
	m.bag = m.without(i)
	return x, api.OK
}

// drop tells what Drop should be answered.
func (m *model) drop(i int) api.Errno {
	_, e := m.at(i)
	if e == api.OK {
		m.bag = m.without(i)
	}
	return e
}

// double tells what Double should be answered.
func (m *model) double(i int) api.Errno {
	x, e := m.at(i)
	if e != api.OK {
		return e
	}
	if len(m.bag) == 64 {
		return api.ErrFull
	}
	m.bag = append(m.bag, x)
	return api.OK
}

// find tells what Find should be answered; -1: there is none.
func (m *model) find(to, from int) int {
	for i, x := range m.bag {
		if i >= from && x.to == to && m.open(x.from, x.to) {
			return i
		}
	}
	return -1
}

// copied tells what Copy should.
func (m *model) copied() *model {
	return &model{nodes: m.nodes, cut: slices.Clone(m.cut), bag: slices.Clone(m.bag)}
}

// alike looks whether a net tells just what its model says.
func alike(t *testing.T, n *net.Net, m *model) {
	t.Helper()
	if n.Nodes() != m.nodes || n.Len() != len(m.bag) {
		t.Fatalf("%d nodes, %d on their way, not %d, %d", n.Nodes(), n.Len(), m.nodes, len(m.bag))
	}
	for i := -1; i <= len(m.bag); i++ {
		got, e := n.At(i)
		if x, want := m.at(i); told(got) != x || e != want {
			t.Fatalf("At(%d): %q, %d, not %v, %d", i, letter(got), e, x, want)
		}
	}
	for a := 0; a <= m.nodes+1; a++ {
		finds(t, n, a, len(m.bag)/2, m.find(a, len(m.bag)/2))
		finds(t, n, a, -1, m.find(a, 0))
		for b := 0; b <= m.nodes+1; b++ {
			if n.Open(a, b) != m.open(a, b) {
				t.Fatalf("Open(%d, %d): %v", a, b, n.Open(a, b))
			}
		}
	}
}

// dice draws what is asked next.
type dice struct{ *rand.Rand }

// node draws a node's number, at times one that is none.
func (d dice) node(nodes int) int { return d.IntN(nodes+2) - d.IntN(2) }

// number draws a message's number, at times one that is none.
func (d dice) number(n int) int { return d.IntN(n+2) - d.IntN(2) }

// text draws a message's bytes, at times too many of them.
func (d dice) text() string {
	switch d.IntN(40) {
	case 0:
		return string(make([]byte, 16385))
	case 1:
		return string(make([]byte, 16384))
	}
	return strconv.Itoa(d.IntN(30))
}

// step asks a net and its model for one thing, and looks whether they answer the same.
func (d dice) step(t *testing.T, n *net.Net, m *model, fill int) {
	t.Helper()
	a, b, i := d.node(m.nodes), d.node(m.nodes), d.number(len(m.bag))
	if d.IntN(100) < fill {
		x := mail{a, b, d.text()}
		is(t, "Send", n.Send(a, b, []byte(x.text)), m.send(x))
		return
	}
	switch d.IntN(6) {
	case 0:
		is(t, "Cut", n.Cut(a, b), m.turn(a, b, true))
	case 1, 2:
		is(t, "Heal", n.Heal(a, b), m.turn(a, b, false))
	case 3:
		got, e := n.Deliver(i)
		if x, want := m.deliver(i); told(got) != x || e != want {
			t.Fatalf("Deliver(%d): %q, %d, not %v, %d", i, letter(got), e, x, want)
		}
	case 4:
		is(t, "Drop", n.Drop(i), m.drop(i))
	case 5:
		is(t, "Double", n.Double(i), m.double(i))
	}
}

// P5.1 to P5.5, P5.8: nets and copies of them answer as the chapter's words say, whatever is asked, their bags now filling, now emptying.
func TestModel(t *testing.T) {
	for seed := range uint64(60) {
		d := dice{rand.New(rand.NewPCG(seed, 5))}
		nodes := 1 + d.IntN(6)
		if seed%10 == 0 {
			nodes = 15
		}
		nets, models := []*net.Net{made(t, nodes)}, []*model{{nodes: nodes}}
		for step := range 400 {
			k := d.IntN(len(nets))
			d.step(t, nets[k], models[k], 20+60*(step/100%2))
			if step%50 == 49 {
				nets, models = append(nets, nets[k].Copy()), append(models, models[k].copied())
			}
			if step%5 == 0 {
				for j := range nets {
					alike(t, nets[j], models[j])
				}
			}
			if t.Failed() {
				t.Fatalf("seed %d, step %d", seed, step)
			}
		}
	}
}

// P5.6: what is delivered was sent, between those nodes, as often at most as it was sent and doubled. P5.8: never are there more than 64.
func TestNothingFromNowhere(t *testing.T) {
	for seed := range uint64(40) {
		d := dice{rand.New(rand.NewPCG(seed, 6))}
		n := made(t, 4)
		owed := map[mail]int{}
		for range 500 {
			a, b, i := d.node(4), d.node(4), d.number(n.Len())
			switch d.IntN(8) {
			case 0, 1, 2:
				if text := d.text(); n.Send(a, b, []byte(text)) == api.OK {
					owed[mail{a, b, text}]++
				}
			case 3:
				m, _ := n.At(i)
				if n.Double(i) == api.OK {
					owed[told(m)]++
				}
			case 4:
				n.Drop(i)
			case 5:
				n.Cut(a, b)
			case 6:
				n.Heal(a, b)
			case 7:
				m, e := n.Deliver(i)
				if e != api.OK {
					break
				}
				if owed[told(m)]--; owed[told(m)] < 0 {
					t.Fatalf("seed %d: %q delivered once too often", seed, letter(m))
				}
			}
			if n.Len() > 64 {
				t.Fatalf("seed %d: %d on their way", seed, n.Len())
			}
		}
	}
}

// P5.7: who always delivers the message number 0 delivers, between any two nodes, what was sent, in order; others' links may be cut for a while.
func TestInOrder(t *testing.T) {
	for seed := range uint64(40) {
		d := dice{rand.New(rand.NewPCG(seed, 7))}
		n := made(t, 4)
		sent, came := map[[2]int][]string{}, map[[2]int][]string{}
		for i := range 600 {
			a, b := d.node(4), d.node(4)
			if d.IntN(2) == 0 {
				if text := strconv.Itoa(i); n.Send(a, b, []byte(text)) == api.OK {
					sent[[2]int{a, b}] = append(sent[[2]int{a, b}], text)
				}
			} else if m, e := n.Deliver(0); e == api.OK {
				came[[2]int{m.From, m.To}] = append(came[[2]int{m.From, m.To}], string(m.Bytes))
			}
			switch d.IntN(20) { // of node 4's links alone some are cut
			case 0:
				n.Cut(4, a)
			case 1, 2, 3, 4, 5:
				n.Heal(4, a)
			}
		}
		for a := 1; a <= 3; a++ {
			for b := 1; b <= 3; b++ {
				s, c := sent[[2]int{a, b}], came[[2]int{a, b}]
				if a != b && len(c) == 0 || len(c) > len(s) || !slices.Equal(c, s[:len(c)]) {
					t.Fatalf("seed %d, from %d to %d: %q, of %q", seed, a, b, c, s)
				}
			}
		}
	}
}

// P5.7: all that was sent comes so.
func TestAllInOrder(t *testing.T) {
	n := filled(t)
	for i := range 64 {
		delivers(t, n, 0, "1>2:"+strconv.Itoa(i))
	}
	has(t, n)
}
