package bookie

import (
	"iter"

	"scrivener/api"
	"scrivener/disk"
	"scrivener/entry"
	"scrivener/store"
)

// maxWaits is how many answers wait at most.
const maxWaits = 64

// helloRoom is how many bytes the store has room for while a bookie can be written.
const helloRoom = 240

// desk is what a bookie works at: it has the store's methods as its own. A Bookie has it as a part that nobody else reaches, so that nothing goes past the fences and the sync.
type desk struct {
	*store.Store
	node  int
	disk  *disk.Disk
	waits []api.Given
}

// place tells the bookie's node, with its disk.
func (k *desk) place() api.Place { return api.Place{Node: k.node, Serial: k.disk.Serial()} }

// take does what a node asks, if it may be asked, and has the answer wait.
func (k *desk) take(from int, r api.Req) bool {
	if k.disk.Down() || !isNode(from) || len(k.waits) >= maxWaits || !mayAsk(r) {
		return false
	}
	k.waits = append(k.waits, api.Given{To: from, Resp: k.answer(r)})
	return true
}

// keyOf tells which entry is asked about.
func keyOf(r api.Req) api.Key { return api.Key{Ledger: r.Ledger, N: r.N} }

// mayAsk tells whether that may be asked of a bookie.
func mayAsk(r api.Req) bool {
	switch r.Kind {
	case api.ReqAdd:
		if r.Epoch > api.MaxCount || r.Sure > api.MaxCount || len(r.Body) > api.MaxStored {
			return false
		}
		fallthrough
	case api.ReqGet:
		return entry.MayKey(keyOf(r))
	case api.ReqFence:
		return isCount(r.Ledger) && isCount(r.Epoch)
	case api.ReqFree:
		return len(r.Keep) <= api.MaxKeep
	case api.ReqHello:
		return true
	}
	return false
}

// isCount tells whether a ledger, or the epoch of a fence, may have that number.
func isCount(n uint64) bool { return n >= 1 && n <= api.MaxCount }

// answer does what is asked, and tells what came of it.
func (k *desk) answer(r api.Req) api.Resp {
	a := api.Resp{From: k.place(), Kind: r.Kind, Ledger: r.Ledger, N: r.N, Epoch: r.Epoch}
	if r.Kind != api.ReqHello && r.To != a.From {
		a.Code = api.RespStrange
		return a
	}
	switch r.Kind {
	case api.ReqAdd:
		a.Code = k.add(r)
	case api.ReqFence:
		a.Code = codeOf(k.Fence(r.Ledger, r.Epoch))
		a.Sure = k.Lac(r.Ledger)
	case api.ReqGet:
		var ok bool
		if a.Body, ok = k.Get(keyOf(r)); !ok {
			a.Code = api.RespNone
		}
		a.Sure = k.Lac(r.Ledger)
	case api.ReqFree:
		a.Code = codeOf(k.Free(r.N, r.Keep...))
	case api.ReqHello:
		if k.Room() < helloRoom {
			a.Code = api.RespFull
		}
	}
	return a
}

// add has the store have an entry, if nobody has fenced its epoch off. A copy is of an entry that the ledger is known to have: no fence is in its way.
func (k *desk) add(r api.Req) int {
	if r.Copy != 1 && k.Fenced(r.Ledger) > r.Epoch {
		return api.RespFenced
	}
	return codeOf(k.Add(keyOf(r), r.Sure, r.Body))
}

// codeOf tells by which Code is answered what the store said.
func codeOf(e api.Errno) int {
	switch e {
	case api.OK:
		return api.RespOk
	case api.ErrStale:
		return api.RespFenced
	case api.ErrState:
		return api.RespNone
	}
	return api.RespFull
}

// handedOut goes over the answers that wait, in order; one that is handed out waits no more.
func (k *desk) handedOut() iter.Seq[api.Given] {
	return func(yield func(api.Given) bool) {
		for len(k.waits) > 0 {
			next := k.waits[0]
			k.waits = k.waits[1:]
			if !yield(next) {
				return
			}
		}
	}
}

// flush has the disk be synced, and tells the answers that waited for it; where that fails they are gone.
func (k *desk) flush() ([]api.Given, api.Errno) {
	e := k.Flush()
	var answers []api.Given
	for g := range k.handedOut() {
		if e == api.OK {
			answers = append(answers, g)
		}
	}
	return answers, e
}
