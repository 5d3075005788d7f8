package reader_test

import (
	"testing"

	"scrivener/api"
)

// P17.2: whichever of its places has the entry, asked or not: it is done.
func TestFound(t *testing.T) {
	for i := range 3 {
		for _, p := range firsts(7, 8, 9) {
			for _, body := range []string{"", "x", "\x00", "abc"} {
				f := wide(t, i)
				r := resp(api.RespOk, p)
				r.Body, r.Sure = []byte(body), 8
				x := takes(t, f, 20, r)
				isAsked(t, x.reqs)
				f.Done, f.Body = 1, []byte(body)
				stays(t, x.f, f)
			}
		}
	}
}

// P17.2: what another place has is not the entry.
func TestFoundElsewhere(t *testing.T) {
	for i := range 3 {
		for _, p := range []api.Place{at(6, 1), at(7, 2), at(8, 0), at(9, 3), at(0, 1), at(-7, 1), {}} {
			aside(t, wide(t, i), resp(api.RespOk, p))
		}
	}
}

// P17.2: if the place that is asked does not tell the entry, it goes on, behind the last one to the first one.
func TestRefused(t *testing.T) {
	for _, code := range []int{api.RespNone, api.RespFull, api.RespFenced} {
		for i, next := range []int{1, 2, 0} {
			f := wide(t, i)
			for k, p := range firsts(7, 8, 9) {
				if k == i {
					passes(t, takes(t, f, 20, resp(code, p)), f, next, 20)
					passes(t, takes(t, f, 0, resp(code, p)), f, next, 0)
				} else {
					aside(t, f, resp(code, p))
				}
				aside(t, f, resp(code, at(p.Node, 2)))
				aside(t, f, resp(code, at(p.Node, 0)))
			}
			aside(t, f, resp(code, at(6, 1)))
			aside(t, f, resp(code, api.Place{}))
		}
	}
}

// P17.2: if the node that is asked has another disk, it goes on.
func TestStrange(t *testing.T) {
	for i, next := range []int{1, 2, 0} {
		f := wide(t, i)
		for k, p := range firsts(7, 8, 9) {
			for _, serial := range []uint64{0, 1, 2, top} {
				r := resp(api.RespStrange, at(p.Node, serial))
				if k == i {
					passes(t, takes(t, f, 20, r), f, next, 20)
				} else {
					aside(t, f, r)
				}
			}
		}
		aside(t, f, resp(api.RespStrange, at(6, 1)))
		aside(t, f, resp(api.RespStrange, at(0, 1)))
	}
}

// P17.2: there are no other codes.
func TestOtherCodes(t *testing.T) {
	for _, code := range []int{-1, 5, 6, 1 << 40, -1 << 63} {
		for i, p := range firsts(7, 8, 9) {
			aside(t, wide(t, i), resp(code, p))
		}
	}
}

// P17.2: what is no answer to this get is left aside.
func TestTakeAside(t *testing.T) {
	for name, does := range map[string]func(r *api.Resp){
		"another ledger": func(r *api.Resp) { r.Ledger = 2 },
		"no ledger":      func(r *api.Resp) { r.Ledger = 0 },
		"entry 1":        func(r *api.Resp) { r.N = 1 },
		"entry 3":        func(r *api.Resp) { r.N = 3 },
		"no entry":       func(r *api.Resp) { r.N = 0 },
		"a lesser tag":   func(r *api.Resp) { r.Epoch = 4 },
		"a greater tag":  func(r *api.Resp) { r.Epoch = 6 },
		"no tag":         func(r *api.Resp) { r.Epoch = 0 },
		"no kind":        func(r *api.Resp) { r.Kind = 0 },
		"an add":         func(r *api.Resp) { r.Kind = api.ReqAdd },
		"a fence":        func(r *api.Resp) { r.Kind = api.ReqFence },
		"a free":         func(r *api.Resp) { r.Kind = api.ReqFree },
		"a hello":        func(r *api.Resp) { r.Kind = api.ReqHello },
		"another kind":   func(r *api.Resp) { r.Kind = 6 },
	} {
		for code := range 5 {
			for i, p := range firsts(7, 8, 9) {
				r := resp(code, p)
				does(&r)
				if aside(t, wide(t, i), r); t.Failed() {
					t.Fatal(name)
				}
			}
		}
	}
}

// P17.2: of a fetch that is another one's, of the entry 0, without a tag: its own answers, as of any.
func TestTakeOwn(t *testing.T) {
	f := api.Fetch{Set: firsts(7, 8), Since: 3}
	x := takes(t, f, 20, api.Resp{From: at(7, 1), Kind: api.ReqGet, Code: api.RespNone})
	if x.f.At != 1 || len(x.reqs) != 1 || x.reqs[0].To != at(8, 1) {
		t.Errorf("%+v", x)
	}
	x = takes(t, x.f, 21, api.Resp{From: at(7, 1), Kind: api.ReqGet, Body: []byte("y")})
	if x.f.Done != 1 || string(x.f.Body) != "y" {
		t.Errorf("%+v", x)
	}
}

// P17.2, P17.3, P17.4, P17.7: what is done stays, whatever comes, and whenever.
func TestDone(t *testing.T) {
	for i := range 3 {
		f := takes(t, wide(t, i), 4, resp(api.RespOk, at(8, 1))).f
		for code := -1; code <= 6; code++ {
			for _, p := range firsts(6, 7, 8, 9) {
				r := resp(code, p)
				r.Body = []byte("another")
				aside(t, f, r)
			}
		}
		for _, now := range []uint64{0, 3, 6, 7, 1 << 63} {
			for _, x := range []told{ticks(t, f, now), moves(t, f, now, three()), moves(t, f, now, api.Ledger{})} {
				stays(t, x.f, f)
				isAsked(t, x.reqs)
			}
		}
	}
	// 1 alone tells that it is done.
	for _, done := range []int{-1, 2, 3, 1 << 32} {
		f := wide(t, 0)
		f.Done = done
		passes(t, ticks(t, f, 6), f, 1, 6)
		x := takes(t, f, 6, resp(api.RespOk, at(8, 1)))
		f.Done, f.Body = 1, []byte("x")
		stays(t, x.f, f)
	}
}

// P17.2: one and the same place is asked again, if there is none beside it.
func TestOnePlace(t *testing.T) {
	f := fresh(t, api.Ledger{Id: 1, W: 1, A: 1, Frags: []api.Frag{frag(1, firsts(7, 8)...)}})
	for _, code := range []int{api.RespNone, api.RespFull, api.RespFenced, api.RespStrange} {
		passes(t, takes(t, f, 20, resp(code, at(8, 1))), f, 0, 20)
		aside(t, f, resp(code, at(7, 1)))
	}
	passes(t, ticks(t, f, 6), f, 0, 6)
}
