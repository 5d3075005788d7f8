package store

import (
	"slices"

	"scrivener/api"
	"scrivener/code"
	"scrivener/entry"
)

// The first bytes of payloads.
const (
	entryKind = 1
	fenceKind = 2
	floorKind = 3
)

// stored is an entry, and the lac that came with it.
type stored struct {
	lac  uint64
	body string
}

// writeEntry tells an entry's payload.
func writeEntry(k api.Key, e stored) []byte {
	w := code.NewWriter()
	w.U8(entryKind)
	w.Put(k.Ledger, k.N, e.lac)
	w.Text(e.body)
	return w.Bytes()
}

// readEntry reads the rest of an entry's payload; false: it is none.
func readEntry(r *code.Reader) (api.Key, stored, bool) {
	k := api.Key{Ledger: r.Uint(), N: r.Uint()}
	e := stored{lac: r.Uint(), body: r.Text(api.MaxStored)}
	return k, e, r.End() == api.OK && entry.MayKey(k) && e.lac <= api.MaxCount
}

// writeFence tells a fence's payload.
func writeFence(ledger, epoch uint64) []byte {
	w := code.NewWriter()
	w.U8(fenceKind)
	w.Put(ledger, epoch)
	return w.Bytes()
}

// readFence reads the rest of a fence's payload; false: it is none.
func readFence(r *code.Reader) (ledger, epoch uint64, ok bool) {
	ledger, epoch = r.Uint(), r.Uint()
	return ledger, epoch, r.End() == api.OK && counts(ledger, epoch)
}

// floor tells which ledgers are dead: those below its number that it does not keep. A number of 0: there is none.
type floor struct {
	number uint64
	keeps  []uint64 // rising
}

// isDead tells whether a ledger is dead.
func (f floor) isDead(ledger uint64) bool {
	_, kept := slices.BinarySearch(f.keeps, ledger)
	return ledger < f.number && !kept
}

// next tells the floor by which the ledgers below that one go, too, but for those that are kept; whatever is dead stays so.
func (f floor) next(below uint64, kept []uint64) floor {
	if below < f.number {
		left := func(ledger uint64) bool { return ledger < below && !slices.Contains(kept, ledger) }
		return floor{number: f.number, keeps: slices.DeleteFunc(slices.Clone(f.keeps), left)}
	}
	n := floor{number: min(below, api.MaxCount+1)}
	for _, ledger := range slices.Compact(slices.Sorted(slices.Values(kept))) {
		if ledger >= 1 && ledger < n.number && !f.isDead(ledger) {
			n.keeps = append(n.keeps, ledger)
		}
	}
	return n
}

// write tells a floor's payload.
func (f floor) write() []byte {
	w := code.NewWriter()
	w.U8(floorKind)
	w.Put(f.number, uint64(len(f.keeps)))
	w.Put(f.keeps...)
	return w.Bytes()
}

// readFloor reads the rest of a floor's payload; false: it is none.
func readFloor(r *code.Reader) (floor, bool) {
	f := floor{number: r.Uint()}
	n := r.Uint()
	if n > api.MaxKeep || f.number > api.MaxCount+1 {
		return floor{}, false
	}
	var last uint64
	for range n {
		ledger := r.Uint()
		if ledger <= last {
			return floor{}, false
		}
		f.keeps = append(f.keeps, ledger)
		last = ledger
	}
	return f, r.End() == api.OK && last < f.number
}
