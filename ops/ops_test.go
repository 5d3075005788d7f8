package ops_test

import (
	"testing"

	"scrivener/api"
	"scrivener/ops"
	"scrivener/plan"
)

// places tells a place for each node, each of the serial 1.
func places(nodes ...int) []api.Place {
	var l []api.Place
	for _, n := range nodes {
		l = append(l, api.Place{Node: n, Serial: 1})
	}
	return l
}

// frag tells a fragment.
func frag(first uint64, nodes ...int) api.Frag {
	return api.Frag{First: first, Bookies: places(nodes...)}
}

// frags tells fragments on two nodes, from these entries on.
func frags(firsts ...uint64) []api.Frag {
	var l []api.Frag
	for _, first := range firsts {
		l = append(l, frag(first, 7, 8))
	}
	return l
}

// base tells a plan that may be: of three channels one has four ledgers, the last one open, one was never owned, and one has a single ledger, closed.
func base() api.Plan {
	return api.Plan{
		Version: 12, Next: 10,
		Channels: []api.Channel{
			{Epoch: 3, Owner: 4, Inc: 2, Renewed: 7, First: 5, Trim: 8, Ledgers: []uint64{2, 4, 5, 9},
				Seen:    []api.Mark{{Producer: 5, Seq: 1, Offset: 4}, {Producer: 6, Seq: 9, Offset: 2}},
				Cursors: []api.Cursor{{Sub: 1, At: 0}, {Sub: 3, At: 6}}},
			{},
			{Epoch: 1, Owner: 5, Inc: 1, Trim: 8, Ledgers: []uint64{3}},
		},
		Ledgers: []api.Ledger{
			{Id: 2, W: 2, A: 1, Frags: frags(1), Closed: 1, Last: 3},
			{Id: 3, W: 1, A: 1, Frags: []api.Frag{frag(1, 7, 8, 9, 10, 11), frag(9, 7)}, Closed: 1, Last: 8},
			{Id: 4, W: 2, A: 2, Frags: frags(1, 4), Closed: 1},
			{Id: 5, W: 2, A: 2, Frags: frags(1, 2, 3), Closed: 1, Last: 1},
			{Id: 9, W: 2, A: 2, Frags: frags(1, 4)},
		},
		Past: []api.Past{
			{Who: 4, Inc: 2, N: 9, Outcome: api.Outcome{Code: 3, Epoch: 3, At: 1, Ledger: 9, Owner: 4}},
			{Who: 6, Inc: 1, N: 1},
		},
	}
}

// good tells an operation of a kind that may be, of node 5, on channel 1 of base.
func good(kind int) api.Op {
	o := api.Op{Who: 5, Inc: 3, N: 7, Kind: kind, Channel: 1, Epoch: 3}
	switch kind {
	case api.OpGrab:
		o.Epoch, o.Now = 0, 19
	case api.OpRenew:
		o.Now = 9
	case api.OpLedger:
		o.W, o.A, o.Frags = 3, 2, []api.Frag{frag(1, 7, 8, 9, 10)}
	case api.OpChange:
		o.Ledger, o.Frags = 9, []api.Frag{frag(5, 7, 9)}
	case api.OpClose:
		o.Ledger, o.At, o.Frags = 9, 6, []api.Frag{frag(1, 8, 9), frag(3, 8, 10)}
	case api.OpTrim:
		o.At = 9
	case api.OpForget:
		o.Ledger, o.Seen = 5, []api.Mark{{Producer: 5, Seq: 2, Offset: 7}, {Producer: 9, Seq: 1, Offset: 6}}
	case api.OpAck, api.OpSeek:
		o.Sub, o.At = 3, 7
	case api.OpCursor:
		o.Sub = 3
	case api.OpReplace:
		o.Channel, o.Epoch, o.Ledger = 0, 0, 2
		o.From, o.To = api.Place{Node: 7, Serial: 1}, api.Place{Node: 9, Serial: 1}
	}
	return o
}

// The limits and kinds that the chapter's words speak of.
func TestLimits(t *testing.T) {
	if api.MaxNodes != 15 || api.MaxCount != top || api.MaxChannels != 3 || api.MaxSubs != 3 || api.MaxMarks != 6 ||
		api.Lease != 12 || api.MaxLedgers != 8 || api.MaxEntries != 8 || api.MaxFrags != 6 || api.MaxBookies != 5 {
		t.Error("limits")
	}
	if api.OpGrab != 1 || api.OpRenew != 2 || api.OpConfirm != 3 || api.OpLedger != 4 || api.OpChange != 5 || api.OpClose != 6 ||
		api.OpTrim != 7 || api.OpForget != 8 || api.OpAck != 9 || api.OpSeek != 10 || api.OpCursor != 11 || api.OpReplace != 12 {
		t.Error("kinds")
	}
	if !plan.May(base()) {
		t.Error("base may not be")
	}
	for kind := 1; kind <= 12; kind++ {
		if !opMay(good(kind)) {
			t.Errorf("kind %d may not be", kind)
		}
	}
}

// The chapter's examples.
func TestExamples(t *testing.T) {
	p, _ := plan.Start(1)
	do := func(o api.Op, want api.Outcome) {
		t.Helper()
		q, got := ops.Apply(p, o)
		if got != want || !plan.May(q) {
			t.Errorf("%+v: %+v, not %+v", o, got, want)
		}
		p = q
	}
	grab := api.Op{Who: 4, Inc: 1, N: 1, Kind: api.OpGrab, Channel: 1, Now: 5}
	do(grab, api.Outcome{Epoch: 1, Owner: 4})
	do(grab, api.Outcome{Epoch: 1, Owner: 4})
	do(api.Op{Who: 5, Inc: 1, N: 1, Kind: api.OpGrab, Channel: 1, Now: 16}, api.Outcome{Code: api.ErrState, Epoch: 1, Owner: 4})
	do(api.Op{Who: 5, Inc: 1, N: 2, Kind: api.OpGrab, Channel: 1, Now: 17}, api.Outcome{Epoch: 2, Owner: 5})
	do(api.Op{Who: 4, Inc: 1, N: 2, Kind: api.OpRenew, Channel: 1, Epoch: 1, Now: 18}, api.Outcome{Code: api.ErrStale, Epoch: 2, Owner: 5})
	do(api.Op{Who: 5, Inc: 1, N: 3, Kind: api.OpLedger, Channel: 1, Epoch: 2, W: 2, A: 2, Frags: frags(1)}, api.Outcome{Ledger: 1})
	do(api.Op{Who: 5, Inc: 1, N: 4, Kind: api.OpClose, Channel: 1, Epoch: 2, Ledger: 1, At: 3, Frags: frags(1)}, api.Outcome{})
	do(api.Op{Who: 5, Inc: 1, N: 5, Kind: api.OpTrim, Channel: 1, Epoch: 2, At: 2}, api.Outcome{At: 2})
	do(api.Op{Who: 12, Inc: 1, N: 1, Kind: api.OpAck, Channel: 1, Epoch: 2, Sub: 1, At: 9}, api.Outcome{At: 9})
	want := api.Plan{
		Version: 7, Next: 2,
		Channels: []api.Channel{{Epoch: 2, Owner: 5, Inc: 1, Renewed: 17, Trim: 2, Ledgers: []uint64{1}, Cursors: []api.Cursor{{Sub: 1, At: 9}}}},
		Ledgers:  []api.Ledger{{Id: 1, W: 2, A: 2, Frags: frags(1), Closed: 1, Last: 3}},
		Past: []api.Past{
			{Who: 4, Inc: 1, N: 1, Outcome: api.Outcome{Epoch: 1, Owner: 4}},
			{Who: 5, Inc: 1, N: 5, Outcome: api.Outcome{At: 2}},
			{Who: 12, Inc: 1, N: 1, Outcome: api.Outcome{At: 9}},
		},
	}
	if !alike(p, want) {
		t.Errorf("%+v", p)
	}
}
