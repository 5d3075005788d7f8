package net_test

import (
	"bytes"
	"math"
	"strconv"
	"strings"
	"testing"

	"scrivener/api"
	"scrivener/net"
)

// made tells a new net.
func made(t *testing.T, nodes int) *net.Net {
	t.Helper()
	n, e := net.New(nodes)
	if e != api.OK || n == nil {
		t.Fatalf("New(%d): %v, %d", nodes, n, e)
	}
	return n
}

// is looks whether a call answered that.
func is(t *testing.T, what string, got, want api.Errno) {
	t.Helper()
	if got != want {
		t.Errorf("%s: %d, not %d", what, got, want)
	}
}

// letter tells a message as one text.
func letter(m api.Message) string {
	return strconv.Itoa(m.From) + ">" + strconv.Itoa(m.To) + ":" + string(m.Bytes)
}

// sends sends letters, each as letter tells it; nodes have one digit.
func sends(t *testing.T, n *net.Net, letters ...string) {
	t.Helper()
	for _, s := range letters {
		is(t, "Send "+s, n.Send(int(s[0]-'0'), int(s[2]-'0'), []byte(s[4:])), api.OK)
	}
}

// bagged tells all letters that are on their way.
func bagged(t *testing.T, n *net.Net) []string {
	t.Helper()
	var all []string
	for i := range n.Len() {
		m, e := n.At(i)
		is(t, "At", e, api.OK)
		all = append(all, letter(m))
	}
	return all
}

// has looks whether just those letters are on their way.
func has(t *testing.T, n *net.Net, letters ...string) {
	t.Helper()
	if got, want := strings.Join(bagged(t, n), " "), strings.Join(letters, " "); got != want {
		t.Errorf("on their way: %q, not %q", got, want)
	}
}

// delivers looks whether that letter is delivered.
func delivers(t *testing.T, n *net.Net, i int, s string) {
	t.Helper()
	if m, e := n.Deliver(i); e != api.OK || letter(m) != s {
		t.Errorf("Deliver(%d): %q, %d, not %q", i, letter(m), e, s)
	}
}

// refuses looks whether a number is answered that error by all four calls that a number is handed, and nothing beside it.
func refuses(t *testing.T, n *net.Net, i int, want api.Errno) {
	t.Helper()
	m, e := n.At(i)
	none(t, "At", m, e, want)
	m, e = n.Deliver(i)
	none(t, "Deliver", m, e, want)
	is(t, "Drop", n.Drop(i), want)
	is(t, "Double", n.Double(i), want)
}

// none looks whether an error stands beside no message.
func none(t *testing.T, what string, m api.Message, e, want api.Errno) {
	t.Helper()
	is(t, what, e, want)
	if m.From != 0 || m.To != 0 || len(m.Bytes) != 0 {
		t.Errorf("%s: %q beside an error", what, letter(m))
	}
}

// finds looks whether Find tells that number; -1: none.
func finds(t *testing.T, n *net.Net, to, from, want int) {
	t.Helper()
	i, ok := n.Find(to, from)
	if ok != (want >= 0) || i != max(want, 0) {
		t.Errorf("Find(%d, %d): %d, %v, not %d", to, from, i, ok, want)
	}
}

// filled tells a net of three nodes with a full bag: letters from 1 to 2, each with its number.
func filled(t *testing.T) *net.Net {
	t.Helper()
	n := made(t, 3)
	for i := range api.MaxBag {
		is(t, "Send", n.Send(1, 2, []byte(strconv.Itoa(i))), api.OK)
	}
	return n
}

// strange are numbers of which none is a node's, nor a message's.
var strange = []int{math.MinInt, math.MinInt64 + 1, math.MinInt32, -256, -65, -64, -17, -16, -15, -2, -1, 256, math.MaxInt32, 1 << 32, 1<<32 + 1, math.MaxInt - 1, math.MaxInt}

// The chapter's examples.
func TestExamples(t *testing.T) {
	n := made(t, 3)
	sends(t, n, "1>2:a", "1>3:b")
	if m, e := n.At(1); e != api.OK || letter(m) != "1>3:b" {
		t.Errorf("At(1): %q, %d", letter(m), e)
	}
	delivers(t, n, 0, "1>2:a")
	if n.Len() != 1 {
		t.Errorf("Len: %d", n.Len())
	}

	is(t, "Cut", n.Cut(3, 1), api.OK)
	m, e := n.Deliver(0)
	none(t, "Deliver", m, e, api.ErrDown)
	is(t, "Send", n.Send(1, 3, []byte("c")), api.ErrDown)
	is(t, "Send", n.Send(1, 1, []byte("c")), api.ErrArg)

	is(t, "Heal", n.Heal(1, 3), api.OK)
	is(t, "Double", n.Double(0), api.OK)
	finds(t, n, 3, 1, 1)
}

// P5.1: a net has from 1 to 15 nodes, all links open, and nothing on its way.
func TestNew(t *testing.T) {
	if api.MaxNodes != 15 || api.MaxBag != 64 || api.MaxFrame != 16384 {
		t.Errorf("limits: %d, %d, %d", api.MaxNodes, api.MaxBag, api.MaxFrame)
	}
	for nodes := 1; nodes <= 15; nodes++ {
		n := made(t, nodes)
		if n.Nodes() != nodes || n.Len() != 0 {
			t.Errorf("New(%d): %d nodes, %d on their way", nodes, n.Nodes(), n.Len())
		}
		for a := -1; a <= 17; a++ {
			finds(t, n, a, 0, -1)
			for b := -1; b <= 17; b++ {
				if want := a != b && a >= 1 && b >= 1 && a <= nodes && b <= nodes; n.Open(a, b) != want {
					t.Errorf("of %d nodes: Open(%d, %d): %v", nodes, a, b, !want)
				}
			}
		}
		refuses(t, n, 0, api.ErrNone)
	}
	for _, nodes := range append([]int{0, 16, 17, 64}, strange...) {
		if n, e := net.New(nodes); n != nil || e != api.ErrArg {
			t.Errorf("New(%d): %v, %d", nodes, n, e)
		}
	}
}

// P5.1: nets have nothing to do with each other.
func TestNewIsAnother(t *testing.T) {
	n, o := made(t, 3), made(t, 3)
	sends(t, n, "1>2:a")
	is(t, "Cut", n.Cut(1, 3), api.OK)
	if o.Len() != 0 || !o.Open(1, 3) {
		t.Error("a net has what another one has")
	}
}

// onlyCut looks whether of a net's links just that one is cut; 0, 0: none.
func onlyCut(t *testing.T, n *net.Net, a, b int) {
	t.Helper()
	for x := 1; x <= n.Nodes(); x++ {
		for y := 1; y <= n.Nodes(); y++ {
			want := x != y && !(x == a && y == b) && !(x == b && y == a)
			if n.Open(x, y) != want {
				t.Errorf("%d, %d cut: Open(%d, %d): %v", a, b, x, y, !want)
			}
		}
	}
}

// P5.2: each link is cut, and healed, by itself, in either way, once or twice.
func TestCutAndHeal(t *testing.T) {
	for nodes := 2; nodes <= 15; nodes++ {
		n := made(t, nodes)
		for a := 1; a <= nodes; a++ {
			for b := 1; b <= nodes; b++ {
				if a == b {
					continue
				}
				is(t, "Heal", n.Heal(a, b), api.OK)
				is(t, "Cut", n.Cut(a, b), api.OK)
				onlyCut(t, n, a, b)
				is(t, "Cut", n.Cut(b, a), api.OK)
				onlyCut(t, n, a, b)
				is(t, "Heal", n.Heal(b, a), api.OK)
				onlyCut(t, n, 0, 0)
			}
		}
	}
}

// P5.2: many links may be cut at once.
func TestManyCuts(t *testing.T) {
	n := made(t, 15)
	for a := 1; a <= 15; a++ {
		for b := a + 1; b <= 15; b++ {
			is(t, "Cut", n.Cut(a, b), api.OK)
		}
	}
	for a := 1; a <= 15; a++ {
		for b := 1; b <= 15; b++ {
			if n.Open(a, b) {
				t.Errorf("Open(%d, %d)", a, b)
			}
		}
	}
	is(t, "Heal", n.Heal(15, 1), api.OK)
	if !n.Open(1, 15) || n.Open(1, 14) || n.Open(2, 15) {
		t.Error("not just one link is healed")
	}
}

// P5.2: ErrArg: they are not two unlike nodes. P5.8: nothing has changed.
func TestCutWrong(t *testing.T) {
	n := made(t, 3)
	is(t, "Cut", n.Cut(1, 2), api.OK)
	for _, x := range append([]int{0, 4, 5, 14, 15, 16}, strange...) {
		for _, pair := range [][2]int{{x, 1}, {1, x}, {x, 3}, {3, x}, {x, x}, {x, 0}, {0, x}, {x, 4}, {x, -1}} {
			a, b := pair[0], pair[1]
			is(t, "Cut", n.Cut(a, b), api.ErrArg)
			is(t, "Heal", n.Heal(a, b), api.ErrArg)
			if n.Open(a, b) {
				t.Errorf("Open(%d, %d)", a, b)
			}
		}
	}
	for x := 1; x <= 3; x++ {
		is(t, "Cut", n.Cut(x, x), api.ErrArg)
		is(t, "Heal", n.Heal(x, x), api.ErrArg)
	}
	onlyCut(t, n, 1, 2)
}

// P5.2, P5.4: a link that is cut takes nothing away that is on its way.
func TestCutKeeps(t *testing.T) {
	n := made(t, 3)
	sends(t, n, "1>2:a", "2>1:b", "1>3:c")
	is(t, "Cut", n.Cut(1, 2), api.OK)
	has(t, n, "1>2:a", "2>1:b", "1>3:c")
	is(t, "Heal", n.Heal(1, 2), api.OK)
	has(t, n, "1>2:a", "2>1:b", "1>3:c")
}

// P5.3: what is sent is the last one, between any two nodes, whatever its bytes are.
func TestSend(t *testing.T) {
	for nodes := 2; nodes <= 15; nodes++ {
		for a := 1; a <= nodes; a++ {
			n := made(t, nodes)
			for b := 1; b <= nodes; b++ {
				want, size := api.OK, n.Len()
				if a == b {
					want = api.ErrArg
				}
				is(t, "Send", n.Send(a, b, []byte{byte(a), 0, 255}), want)
				if want != api.OK {
					continue
				}
				m, e := n.At(size)
				if n.Len() != size+1 || e != api.OK || m.From != a || m.To != b || !bytes.Equal(m.Bytes, []byte{byte(a), 0, 255}) {
					t.Errorf("Send(%d, %d): %d on their way, %q", a, b, n.Len(), letter(m))
				}
			}
		}
	}
}

// P5.3: a message may have no bytes, and like ones may be on their way.
func TestSendLikeOnes(t *testing.T) {
	n := made(t, 2)
	is(t, "Send", n.Send(1, 2, nil), api.OK)
	is(t, "Send", n.Send(1, 2, []byte{}), api.OK)
	is(t, "Send", n.Send(2, 1, nil), api.OK)
	has(t, n, "1>2:", "1>2:", "2>1:")
	delivers(t, n, 1, "1>2:")
	has(t, n, "1>2:", "2>1:")
}

// P5.3: ErrArg: they are not two unlike nodes. P5.8: nothing has changed.
func TestSendWrong(t *testing.T) {
	n := made(t, 3)
	sends(t, n, "1>2:a")
	for _, x := range append([]int{0, 4, 15, 16}, strange...) {
		is(t, "Send", n.Send(x, 1, []byte("b")), api.ErrArg)
		is(t, "Send", n.Send(1, x, []byte("b")), api.ErrArg)
		is(t, "Send", n.Send(x, x, nil), api.ErrArg)
	}
	for x := 1; x <= 3; x++ {
		is(t, "Send", n.Send(x, x, []byte("b")), api.ErrArg)
	}
	has(t, n, "1>2:a")
	is(t, "Send", made(t, 1).Send(1, 1, nil), api.ErrArg)
}

// P5.3: a message has 16,384 bytes at most.
func TestSendLong(t *testing.T) {
	n := made(t, 2)
	long := bytes.Repeat([]byte("long "), 3277)
	is(t, "Send", n.Send(1, 2, long[:16384]), api.OK)
	if m, e := n.At(0); e != api.OK || !bytes.Equal(m.Bytes, long[:16384]) {
		t.Errorf("of the longest message %d bytes are there", len(m.Bytes))
	}
	is(t, "Send", n.Send(1, 2, long), api.ErrLong)
	is(t, "Send", n.Send(1, 2, make([]byte, 1<<20)), api.ErrLong)
	if n.Len() != 1 {
		t.Errorf("%d on their way", n.Len())
	}
}

// P5.3: a cut link lets nothing in, neither way; other links do.
func TestSendDown(t *testing.T) {
	n := made(t, 3)
	is(t, "Cut", n.Cut(2, 1), api.OK)
	is(t, "Send", n.Send(1, 2, nil), api.ErrDown)
	is(t, "Send", n.Send(2, 1, nil), api.ErrDown)
	sends(t, n, "1>3:a", "3>1:b", "2>3:c", "3>2:d")
	is(t, "Heal", n.Heal(2, 1), api.OK)
	sends(t, n, "1>2:e", "2>1:f")
	has(t, n, "1>3:a", "3>1:b", "2>3:c", "3>2:d", "1>2:e", "2>1:f")
}

// P5.3, P5.8: there are 64 messages at most, those between all nodes together.
func TestSendFull(t *testing.T) {
	n := made(t, 3)
	for i := range 64 {
		is(t, "Send", n.Send(i%3+1, (i+1)%3+1, []byte{byte(i)}), api.OK)
		if n.Len() != i+1 {
			t.Errorf("%d on their way, not %d", n.Len(), i+1)
		}
	}
	for a := 1; a <= 3; a++ {
		is(t, "Send", n.Send(a, a%3+1, nil), api.ErrFull)
	}
	for i := range 64 {
		if m, e := n.At(i); e != api.OK || m.From != i%3+1 || m.To != (i+1)%3+1 || !bytes.Equal(m.Bytes, []byte{byte(i)}) {
			t.Errorf("number %d is %q, %d", i, letter(m), e)
		}
	}
	is(t, "Drop", n.Drop(10), api.OK)
	is(t, "Send", n.Send(3, 1, []byte("z")), api.OK)
	is(t, "Send", n.Send(3, 1, []byte("z")), api.ErrFull)
	if m, _ := n.At(63); letter(m) != "3>1:z" {
		t.Errorf("the last one is %q", letter(m))
	}
}

// P5.3: of several errors the first one is told: ErrArg, ErrLong, ErrDown, ErrFull.
func TestSendFirstError(t *testing.T) {
	n := filled(t)
	long := make([]byte, 16385)
	is(t, "Cut", n.Cut(1, 2), api.OK)
	is(t, "Send", n.Send(1, 1, long), api.ErrArg)
	is(t, "Send", n.Send(0, 1, long), api.ErrArg)
	is(t, "Send", n.Send(1, 4, nil), api.ErrArg)
	is(t, "Send", n.Send(1, 2, long), api.ErrLong)
	is(t, "Send", n.Send(1, 3, long), api.ErrLong)
	is(t, "Send", n.Send(2, 1, long[:16384]), api.ErrDown)
	is(t, "Send", n.Send(1, 3, long[:16384]), api.ErrFull)
	if n.Len() != 64 {
		t.Errorf("%d on their way", n.Len())
	}
}

// P5.4: ErrNone, unless there is one of that number. P5.8: nothing has changed.
func TestNumberWrong(t *testing.T) {
	n := made(t, 3)
	for i := range 4 {
		for _, x := range append([]int{i, i + 1, 63, 64, 65}, strange...) {
			refuses(t, n, x, api.ErrNone)
		}
		if n.Len() != i {
			t.Errorf("%d on their way, not %d", n.Len(), i)
		}
		sends(t, n, "1>2:a")
	}
	n = filled(t)
	for _, x := range append([]int{64, 65}, strange...) {
		refuses(t, n, x, api.ErrNone)
	}
	delivers(t, n, 63, "1>2:63")
	refuses(t, n, 63, api.ErrNone)
}

// P5.4: At tells a message, again and again, its link cut or not, and leaves it there.
func TestAt(t *testing.T) {
	n := made(t, 3)
	sends(t, n, "1>2:a", "3>2:b")
	has(t, n, "1>2:a", "3>2:b")
	is(t, "Cut", n.Cut(1, 2), api.OK)
	has(t, n, "1>2:a", "3>2:b")
	has(t, n, "1>2:a", "3>2:b")
}

// P5.4: Deliver tells any one, and those behind it have a number one less.
func TestDeliver(t *testing.T) {
	n := made(t, 3)
	sends(t, n, "1>2:a", "1>3:b", "2>1:c", "3>1:d")
	delivers(t, n, 1, "1>3:b")
	has(t, n, "1>2:a", "2>1:c", "3>1:d")
	delivers(t, n, 2, "3>1:d")
	has(t, n, "1>2:a", "2>1:c")
	delivers(t, n, 0, "1>2:a")
	has(t, n, "2>1:c")
	sends(t, n, "1>2:e")
	delivers(t, n, 0, "2>1:c")
	delivers(t, n, 0, "1>2:e")
	has(t, n)
	refuses(t, n, 0, api.ErrNone)
}

// P5.4: over a cut link nothing is delivered, neither way, and it stays; ErrNone goes ahead of it.
func TestDeliverDown(t *testing.T) {
	n := made(t, 3)
	sends(t, n, "1>2:a", "2>1:b", "1>3:c", "3>2:d")
	is(t, "Cut", n.Cut(2, 1), api.OK)
	for _, i := range []int{0, 1, 0} {
		m, e := n.Deliver(i)
		none(t, "Deliver", m, e, api.ErrDown)
	}
	m, e := n.Deliver(4)
	none(t, "Deliver", m, e, api.ErrNone)
	has(t, n, "1>2:a", "2>1:b", "1>3:c", "3>2:d")
	delivers(t, n, 3, "3>2:d")
	delivers(t, n, 2, "1>3:c")
	is(t, "Heal", n.Heal(1, 2), api.OK)
	delivers(t, n, 1, "2>1:b")
	delivers(t, n, 0, "1>2:a")
}

// P5.4: Drop takes any one away, its link cut or not.
func TestDrop(t *testing.T) {
	n := made(t, 3)
	sends(t, n, "1>2:a", "1>3:b", "2>1:c", "3>1:d")
	is(t, "Cut", n.Cut(1, 3), api.OK)
	is(t, "Drop", n.Drop(1), api.OK)
	has(t, n, "1>2:a", "2>1:c", "3>1:d")
	is(t, "Drop", n.Drop(2), api.OK)
	has(t, n, "1>2:a", "2>1:c")
	is(t, "Drop", n.Drop(0), api.OK)
	has(t, n, "2>1:c")
	is(t, "Drop", n.Drop(0), api.OK)
	has(t, n)
	is(t, "Drop", n.Drop(0), api.ErrNone)
}

// P5.4: Double has one like it be the last one, its link cut or not.
func TestDouble(t *testing.T) {
	n := made(t, 3)
	sends(t, n, "1>2:a", "3>1:b", "2>3:")
	is(t, "Double", n.Double(1), api.OK)
	has(t, n, "1>2:a", "3>1:b", "2>3:", "3>1:b")
	is(t, "Cut", n.Cut(1, 2), api.OK)
	is(t, "Double", n.Double(0), api.OK)
	is(t, "Double", n.Double(2), api.OK)
	is(t, "Double", n.Double(3), api.OK)
	has(t, n, "1>2:a", "3>1:b", "2>3:", "3>1:b", "1>2:a", "2>3:", "3>1:b")
	is(t, "Drop", n.Drop(1), api.OK)
	delivers(t, n, 2, "3>1:b")
	has(t, n, "1>2:a", "2>3:", "1>2:a", "2>3:", "3>1:b")
}

// P5.4, P5.8: ErrFull: there are 64; ErrNone goes ahead of it.
func TestDoubleFull(t *testing.T) {
	n := filled(t)
	is(t, "Double", n.Double(0), api.ErrFull)
	is(t, "Double", n.Double(63), api.ErrFull)
	is(t, "Double", n.Double(64), api.ErrNone)
	is(t, "Double", n.Double(-1), api.ErrNone)
	if n.Len() != 64 {
		t.Errorf("%d on their way", n.Len())
	}
	delivers(t, n, 5, "1>2:5")
	is(t, "Double", n.Double(0), api.OK)
	is(t, "Double", n.Double(0), api.ErrFull)
	if m, _ := n.At(63); letter(m) != "1>2:0" || n.Len() != 64 {
		t.Errorf("the last one of %d is %q", n.Len(), letter(m))
	}
}

// P5.4: Find tells the least number, from one on, of a message to a node.
func TestFind(t *testing.T) {
	n := made(t, 4)
	sends(t, n, "1>2:a", "1>3:b", "3>2:c", "2>1:d", "4>2:e")
	want := map[int][]int{1: {3, 3, 3, 3, -1, -1}, 2: {0, 2, 2, 4, 4, -1}, 3: {1, 1, -1, -1, -1, -1}, 4: {-1, -1, -1, -1, -1, -1}}
	for to, row := range want {
		for from, i := range row {
			finds(t, n, to, from, i)
		}
		for _, from := range strange {
			if from < 0 {
				finds(t, n, to, from, row[0])
			} else {
				finds(t, n, to, from, -1)
			}
		}
	}
	for _, to := range append([]int{0, 5, 15}, strange...) {
		finds(t, n, to, 0, -1)
	}
	has(t, n, "1>2:a", "1>3:b", "3>2:c", "2>1:d", "4>2:e")
}

// P5.4: Find goes by those whose link is cut.
func TestFindOpen(t *testing.T) {
	n := made(t, 4)
	sends(t, n, "1>2:a", "3>2:b", "1>2:c", "4>2:d", "2>1:e")
	is(t, "Cut", n.Cut(2, 1), api.OK)
	finds(t, n, 2, 0, 1)
	finds(t, n, 2, -1, 1)
	finds(t, n, 2, 1, 1)
	finds(t, n, 2, 2, 3)
	finds(t, n, 1, 0, -1)
	is(t, "Cut", n.Cut(3, 2), api.OK)
	finds(t, n, 2, 0, 3)
	is(t, "Cut", n.Cut(4, 2), api.OK)
	finds(t, n, 2, 0, -1)
	is(t, "Heal", n.Heal(1, 2), api.OK)
	finds(t, n, 2, 0, 0)
	finds(t, n, 2, 1, 2)
	finds(t, n, 1, 0, 4)
}

// P5.5: a net that is nil, or that New did not make, has no nodes, and nothing.
func TestNotMade(t *testing.T) {
	n := made(t, 3)
	sends(t, n, "1>2:a")
	was := *n
	for _, o := range []*net.Net{nil, new(net.Net), {}, &was} {
		if o.Nodes() != 0 || o.Len() != 0 || o.Open(1, 2) || o.Open(0, 1) || o.Copy() != nil {
			t.Errorf("a net that was not made: %d nodes, %d on their way", o.Nodes(), o.Len())
		}
		for a := -1; a <= 16; a++ {
			for b := -1; b <= 16; b++ {
				is(t, "Cut", o.Cut(a, b), api.ErrArg)
				is(t, "Heal", o.Heal(a, b), api.ErrArg)
				is(t, "Send", o.Send(a, b, []byte("b")), api.ErrArg)
			}
			finds(t, o, a, 0, -1)
			finds(t, o, a, -1, -1)
			refuses(t, o, a, api.ErrNone)
		}
		is(t, "Send", o.Send(1, 2, make([]byte, 16385)), api.ErrArg)
		if o.Nodes() != 0 || o.Len() != 0 || o.Copy() != nil {
			t.Error("something was done to a net that was not made")
		}
	}
	has(t, n, "1>2:a")
}

// P5.5: a copy is the same, and a net of its own: what is done to either is not done to the other.
func TestCopy(t *testing.T) {
	n := made(t, 4)
	sends(t, n, "1>2:a", "1>3:b", "2>1:c")
	is(t, "Cut", n.Cut(1, 2), api.OK)
	c := n.Copy()
	if c == nil || c == n || c.Nodes() != 4 {
		t.Fatalf("Copy: %v", c)
	}
	has(t, c, "1>2:a", "1>3:b", "2>1:c")
	onlyCut(t, c, 1, 2)

	delivers(t, n, 1, "1>3:b")
	is(t, "Heal", n.Heal(1, 2), api.OK)
	sends(t, n, "1>2:d")
	has(t, c, "1>2:a", "1>3:b", "2>1:c")
	onlyCut(t, c, 1, 2)

	is(t, "Drop", c.Drop(0), api.OK)
	is(t, "Cut", c.Cut(3, 4), api.OK)
	sends(t, c, "4>1:x", "4>1:y")
	is(t, "Double", c.Double(0), api.OK)
	has(t, c, "1>3:b", "2>1:c", "4>1:x", "4>1:y", "1>3:b")
	has(t, n, "1>2:a", "2>1:c", "1>2:d")
	onlyCut(t, n, 0, 0)

	o := c.Copy()
	has(t, o, "1>3:b", "2>1:c", "4>1:x", "4>1:y", "1>3:b")
	has(t, made(t, 2).Copy())
}

// P5.5: what is put into a net and its copy in turns goes into either one alone, whatever room is behind their bags.
func TestCopyGrows(t *testing.T) {
	for size := range 20 {
		n := made(t, 2)
		for range size {
			sends(t, n, "1>2:a")
		}
		c := n.Copy()
		sends(t, n, "1>2:n")
		sends(t, c, "2>1:c")
		m, _ := n.At(size)
		o, _ := c.At(size)
		if letter(m) != "1>2:n" || letter(o) != "2>1:c" {
			t.Errorf("behind %d: %q and %q", size, letter(m), letter(o))
		}
	}
}

// P5.5: bytes that are handed in are not kept, nor changed, nor the room behind them.
func TestHandedIn(t *testing.T) {
	n := made(t, 2)
	room := []byte("ab....")
	is(t, "Send", n.Send(1, 2, room[:2]), api.OK)
	if string(room) != "ab...." {
		t.Errorf("handed in: %q", room)
	}
	copy(room, "xyzxyz")
	has(t, n, "1>2:ab")
}

// overwrite writes over a list's bytes, and over the room behind them.
func overwrite(b []byte) {
	b = b[:cap(b)]
	for i := range b {
		b[i] = '!'
	}
}

// P5.5: what is answered is new memory, also where a message was doubled, or the net copied.
func TestAnswered(t *testing.T) {
	n := made(t, 2)
	sends(t, n, "1>2:ab", "2>1:cd")
	is(t, "Double", n.Double(0), api.OK)
	c := n.Copy()
	m, _ := n.At(0)
	overwrite(m.Bytes)
	m, _ = c.At(2)
	overwrite(m.Bytes)
	has(t, n, "1>2:ab", "2>1:cd", "1>2:ab")
	has(t, c, "1>2:ab", "2>1:cd", "1>2:ab")

	m, _ = n.Deliver(0)
	overwrite(m.Bytes)
	has(t, n, "2>1:cd", "1>2:ab")
	has(t, c, "1>2:ab", "2>1:cd", "1>2:ab")
	m, _ = c.Deliver(2)
	overwrite(m.Bytes)
	has(t, n, "2>1:cd", "1>2:ab")
	has(t, c, "1>2:ab", "2>1:cd")

	a, _ := n.At(1)
	b, _ := n.At(1)
	overwrite(a.Bytes)
	if letter(b) != "1>2:ab" {
		t.Errorf("two answers share memory: %q", letter(b))
	}
}
