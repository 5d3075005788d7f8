package copier_test

import (
	"math"
	"testing"

	"scrivener/api"
)

// got tells that a place has an entry of a ledger.
func got(ledger, n uint64, from api.Place, body string) api.Resp {
	return api.Resp{From: from, Kind: api.ReqGet, Ledger: ledger, N: n, Body: []byte(body)}
}

// none tells that a place has it not, or why it does not tell it.
func none(ledger, n uint64, from api.Place, code int) api.Resp {
	return api.Resp{From: from, Kind: api.ReqGet, Code: code, Ledger: ledger, N: n}
}

// put tells what a place answers to having an entry of a ledger.
func put(ledger, n uint64, from api.Place, code int) api.Resp {
	return api.Resp{From: from, Kind: api.ReqAdd, Code: code, Ledger: ledger, N: n}
}

// seeking tells a copier of the wide ledger's place 5.1 to 5.2 that asks 6.1 and 7.1 for the entry 1, as of tick 3.
func seeking(t *testing.T) api.Copier {
	t.Helper()
	x := begins(t, wide(), at(5, 1), at(5, 2), 3)
	isAsked(t, x.reqs, 3, 1, firsts(6, 7)...)
	return x.c
}

// copying tells one that asks 5.2 to have the entry 1.
func copying(t *testing.T) api.Copier {
	t.Helper()
	x := takes(t, seeking(t), 3, got(3, 1, at(6, 1), "x"))
	isPut(t, x.reqs, 3, 8, 1, "x", at(5, 2))
	return x.c
}

// aside looks whether an answer changes nothing, and nothing is asked.
func aside(t *testing.T, c api.Copier, r api.Resp) {
	t.Helper()
	x := takes(t, c, 5, r)
	stays(t, x.c, c)
	isNone(t, x.reqs)
}

// P18.3: the first one of the others that has the entry has it copied, with its bytes.
func TestGot(t *testing.T) {
	for _, p := range firsts(6, 7) {
		for _, body := range []string{"", "x", "\x00", "abc"} {
			for _, has := range [][]api.Place{nil, firsts(6), firsts(7), firsts(7, 6)} {
				for _, now := range []uint64{0, 3, 20, math.MaxUint64} {
					c := seeking(t)
					c.None = has
					r := got(3, 1, p, body)
					r.Sure = 6 // of the ledger it is known where it ends
					x := takes(t, c, now, r)
					isPut(t, x.reqs, 3, 8, 1, body, at(5, 2))
					c.Phase, c.Body, c.Since = 2, []byte(body), now
					stays(t, x.c, c)
				}
			}
		}
	}
}

// P18.3: who says that it has none, is among those; nobody is asked by that.
func TestNone(t *testing.T) {
	c := seeking(t)
	x := takes(t, c, 9, none(3, 1, at(7, 1), api.RespNone))
	isNone(t, x.reqs)
	c.None = firsts(7)
	stays(t, x.c, c)
	aside(t, c, none(3, 1, at(7, 1), api.RespNone)) // once
	x = takes(t, c, 9, none(3, 1, at(6, 1), api.RespNone))
	isNone(t, x.reqs)
	c.None = firsts(7, 6)
	stays(t, x.c, c)
	aside(t, c, none(3, 1, at(6, 1), api.RespNone))
}

// P18.3: of other places than the others of the entry's write set all is left aside.
func TestGotElsewhere(t *testing.T) {
	for _, p := range []api.Place{at(5, 1), at(5, 2), at(8, 1), at(9, 1), at(10, 1), at(6, 2), at(7, 0), at(11, 1), {}} {
		aside(t, seeking(t), got(3, 1, p, "x"))
		for code := 1; code <= 4; code++ {
			aside(t, seeking(t), none(3, 1, p, code))
		}
	}
	// What From says counts for nothing, though it stands in the write set of each entry.
	c := seeking(t)
	c.From = at(6, 1)
	aside(t, c, got(3, 1, at(6, 1), "x"))
	aside(t, c, none(3, 1, at(6, 1), api.RespNone))
	x := takes(t, c, 5, got(3, 1, at(5, 1), "x"))
	isPut(t, x.reqs, 3, 8, 1, "x", at(5, 2))
}

// P18.3: other codes to a get are left aside.
func TestGetCodes(t *testing.T) {
	for _, p := range firsts(6, 7) {
		for _, code := range []int{api.RespFenced, api.RespFull, api.RespStrange, 5, 6, -1, math.MinInt} {
			aside(t, seeking(t), none(3, 1, p, code))
		}
	}
}

// P18.3: when the new place has the entry, it goes on to the next one that the old one had.
func TestPut(t *testing.T) {
	c := copying(t)
	bodies := map[uint64]string{3: "c", 4: "", 5: "e", 6: "ff", 7: "\x00", 8: "h"}
	sets := map[uint64][]api.Place{3: firsts(7, 8), 4: firsts(8, 6), 5: firsts(9, 10), 6: firsts(10, 9), 7: firsts(10, 9), 8: firsts(9, 10)}
	now := uint64(5)
	for _, n := range []uint64{3, 4, 5, 6, 7, 8} {
		c.None = firsts(6, 7, 8)
		x := takes(t, c, now, put(3, c.N, at(5, 2), api.RespOk))
		isAsked(t, x.reqs, 3, n, sets[n]...)
		c.Phase, c.N, c.None, c.Body, c.Born, c.Since = 1, n, nil, nil, now, now
		stays(t, x.c, c)
		now++
		x = takes(t, x.c, now, got(3, n, sets[n][1], bodies[n]))
		isPut(t, x.reqs, 3, 8, n, bodies[n], at(5, 2))
		c.Phase, c.Body, c.Since = 2, []byte(bodies[n]), now
		stays(t, x.c, c)
		now++
	}
	c.None = firsts(9)
	x := takes(t, c, 99, put(3, 8, at(5, 2), api.RespOk))
	isNone(t, x.reqs)
	c.Phase, c.N, c.None, c.Body = 3, 0, nil, nil
	stays(t, x.c, c)
}

// P18.3: what any other place than the new one says that it has taken is left aside.
func TestPutElsewhere(t *testing.T) {
	for _, p := range []api.Place{at(5, 1), at(5, 3), at(5, 0), at(6, 1), at(7, 1), at(6, 2), {}} {
		aside(t, copying(t), put(3, 1, p, api.RespOk))
		aside(t, copying(t), put(3, 1, p, api.RespFull))
		aside(t, copying(t), put(3, 1, p, api.RespNone))
		aside(t, copying(t), put(3, 1, p, api.RespFenced))
		if p.Node != 5 {
			aside(t, copying(t), put(3, 1, p, api.RespStrange))
		}
	}
}

// gives looks whether a copier is given up by an answer: nothing else of it is another one, and nothing is asked.
func gives(t *testing.T, c api.Copier, r api.Resp) {
	t.Helper()
	x := takes(t, c, 5, r)
	c.Phase = 4
	stays(t, x.c, c)
	isNone(t, x.reqs)
}

// P18.3: it is given up when the new place cannot write, or its node has another disk.
func TestPutGivesUp(t *testing.T) {
	for _, none := range [][]api.Place{nil, firsts(7)} {
		c := copying(t)
		c.None = none
		gives(t, c, put(3, 1, at(5, 2), api.RespFull))
		gives(t, c, put(3, 1, at(5, 2), api.RespStrange))
		for _, serial := range []uint64{0, 1, 3, top, math.MaxUint64} {
			gives(t, c, put(3, 1, at(5, serial), api.RespStrange))
		}
	}
}

// P18.3: other codes of the new place are left aside.
func TestPutCodes(t *testing.T) {
	for _, code := range []int{api.RespFenced, api.RespNone, 5, 6, -1, math.MinInt} {
		aside(t, copying(t), put(3, 1, at(5, 2), code))
	}
}

// strangers tells what makes an answer another one's.
func strangers() map[string]func(r *api.Resp) {
	return map[string]func(r *api.Resp){
		"another ledger":  func(r *api.Resp) { r.Ledger = 2 },
		"no ledger":       func(r *api.Resp) { r.Ledger = 0 },
		"the entry 2":     func(r *api.Resp) { r.N = 2 },
		"the entry 3":     func(r *api.Resp) { r.N = 3 },
		"no entry":        func(r *api.Resp) { r.N = 0 },
		"the epoch 1":     func(r *api.Resp) { r.Epoch = 1 },
		"a great epoch":   func(r *api.Resp) { r.Epoch = math.MaxUint64 },
		"no kind":         func(r *api.Resp) { r.Kind = 0 },
		"a fence":         func(r *api.Resp) { r.Kind = api.ReqFence },
		"a free":          func(r *api.Resp) { r.Kind = api.ReqFree },
		"a hello":         func(r *api.Resp) { r.Kind = api.ReqHello },
		"another kind":    func(r *api.Resp) { r.Kind = 6 },
		"the other phase": func(r *api.Resp) { r.Kind = api.ReqAdd + api.ReqGet - r.Kind },
	}
}

// P18.3: what is no answer to what is asked is left aside.
func TestTakeAside(t *testing.T) {
	for name, does := range strangers() {
		for code := range 5 {
			for _, p := range []api.Place{at(6, 1), at(7, 1), at(5, 2)} {
				r := none(3, 1, p, code)
				does(&r)
				aside(t, seeking(t), r)
				r = put(3, 1, p, code)
				does(&r)
				if aside(t, copying(t), r); t.Failed() {
					t.Fatal(name)
				}
			}
		}
	}
}

// P18.3, P18.4: in other phases nothing is done, whatever comes.
func TestOtherPhases(t *testing.T) {
	for _, phase := range []int{3, 4, 0, 5, -1, math.MaxInt, math.MinInt} {
		for _, c := range []api.Copier{seeking(t), copying(t)} {
			c.Phase, c.None = phase, firsts(7)
			for code := range 5 {
				for _, p := range []api.Place{at(6, 1), at(7, 1), at(5, 2)} {
					aside(t, c, put(3, 1, p, code))
					aside(t, c, none(3, 1, p, code))
				}
			}
			for _, now := range []uint64{0, 3, 6, 12, 100, math.MaxUint64} {
				x := ticks(t, c, now)
				stays(t, x.c, c)
				isNone(t, x.reqs)
			}
		}
	}
}

// P18.3, P18.5: of a copier with any fields, by the words: to the epoch 0 of its own ledger, and entry, whatever these are.
func TestTakeAny(t *testing.T) {
	c := api.Copier{Ledger: api.Ledger{Frags: []api.Frag{frag(0, firsts(7, 8)...)}, W: 2, Last: 77}, Phase: 1}
	x := takes(t, c, 4, got(0, 0, at(8, 1), "x"))
	isPut(t, x.reqs, 0, 77, 0, "x", api.Place{})
	x = takes(t, x.c, 5, put(0, 0, api.Place{}, api.RespOk))
	isNone(t, x.reqs)
	c.Phase, c.Since = 3, 4
	stays(t, x.c, c) // of a ledger that may not be no place had anything
	// It goes on behind any number.
	for n, next := range map[uint64]uint64{0: 1, 1: 3, 2: 3, 7: 8, 8: 0, 9: 0, math.MaxUint64: 0} {
		c := copying(t)
		c.N = n
		x := takes(t, c, 9, put(3, n, at(5, 2), api.RespOk))
		if x.c.N != next {
			t.Errorf("behind %d: %+v", n, x)
		}
	}
	// A ledger that is open, or half closed, has nothing behind an entry.
	for _, closed := range []int{0, 2} {
		c := copying(t)
		c.Ledger.Closed = closed
		x := takes(t, c, 9, put(3, 1, at(5, 2), api.RespOk))
		if isNone(t, x.reqs); x.c.Phase != 3 || x.c.N != 0 {
			t.Errorf("%+v", x)
		}
	}
}
