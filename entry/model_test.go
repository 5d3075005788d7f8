package entry_test

import (
	"bytes"
	"encoding/binary"
	"math"
	"math/rand/v2"
	"strconv"
	"testing"

	"scrivener/api"
	"scrivener/entry"
)

// top is the greatest number that a message, a ledger, or an entry of it may have.
const top = 1<<62 - 1

// counts are such numbers about all edges; false: none may have it.
var counts = map[uint64]bool{
	0: false, 1: true, 2: true, 3: true, 127: true, 128: true, 255: true, 256: true, 300: true, 16383: true, 16384: true, 1<<32 - 1: true, 1 << 32: true, 1<<32 + 1: true,
	1<<56 - 1: true, 1 << 56: true, top - 1: true, top: true,
	top + 1: false, top + 2: false, 1<<63 - 1: false, 1 << 63: false, 1<<63 + 1: false, math.MaxUint64 - 1: false, math.MaxUint64: false,
}

// producers are numbers of producers about all edges; false: none has it.
var producers = map[int]bool{
	0: false, 1: true, 2: true, 3: true, 9: true, 14: true, 15: true,
	-1: false, -2: false, -15: false, 16: false, 17: false, 127: false, 128: false, 255: false, 257: false, 1<<32 + 1: false,
	math.MinInt: false, math.MinInt + 1: false, math.MinInt32: false, math.MaxInt32: false, math.MaxInt - 1: false, math.MaxInt: false,
}

// bodies are messages' bytes about all edges, unlike ones of one length among them; false: none may have them.
func bodies() map[string]bool {
	l := map[string]bool{
		"": true, "a": true, "b": true, "\x00": true, "\xff": true, "ab": true, "ba": true, "aa": true, "a\x00": true, "\x01a": true, "\x02ab": true, "é": true,
		text(62, 1): true, text(63, 1): true, text(64, 1): true, text(64, 2): true,
		text(65, 1): false, text(66, 1): false, text(127, 1): false, text(128, 1): false, text(255, 1): false, text(256, 1): false, text(320, 1): false, text(70000, 1): false,
	}
	for i := range 64 {
		l[text(i, 3)] = true
	}
	return l
}

// text tells n bytes, unlike for unlike seeds, the same ones at each run.
func text(n int, seed uint64) string {
	d := rand.New(rand.NewPCG(11, seed))
	b := make([]byte, n)
	for i := range b {
		b[i] = byte(d.Uint32())
	}
	return string(b)
}

// made tells an entry by its parts.
func made(producer int, seq uint64, body string) api.Entry {
	return api.Entry{Producer: producer, Seq: seq, Body: []byte(body)}
}

// grid tells all entries of these parts, and of each whether it may be.
func grid(each func(e api.Entry, may bool)) {
	for body, b := range bodies() {
		for producer, p := range producers {
			for seq, s := range counts {
				each(made(producer, seq, body), p && s && b)
			}
		}
	}
}

// few tells entries that may be, of few parts, so that many of them have some in common.
func few() []api.Entry {
	var l []api.Entry
	for _, producer := range []int{1, 2, 3, 15} {
		for _, seq := range []uint64{1, 2, 3, 127, 128, 129, 257, 300, 1 << 32, top - 1, top} {
			for _, body := range []string{"", "\x00", "\x01", "\x02", "a", "b", "ab", "\x01a", "a\x00", "\x02\x01\x00", text(63, 1), text(64, 1), text(64, 2)} {
				l = append(l, made(producer, seq, body))
			}
		}
	}
	return l
}

// parts tells two short numbers and a text as bytes, whether they are those of an entry that may be or not.
func parts(producer, seq uint64, body string) []byte {
	b := binary.AppendUvarint(nil, producer)
	b = binary.AppendUvarint(b, seq)
	b = binary.AppendUvarint(b, uint64(len(body)))
	return append(b, body...)
}

// written tells an entry's bytes as the chapter's words say it.
func written(e api.Entry) []byte { return parts(uint64(e.Producer), e.Seq, string(e.Body)) }

// alike tells whether two entries are the same, where nil and none are one.
func alike(a, b api.Entry) bool {
	return a.Producer == b.Producer && a.Seq == b.Seq && string(a.Body) == string(b.Body)
}

// tell tells an entry as a text.
func tell(e api.Entry) string {
	return "{" + strconv.Itoa(e.Producer) + " " + strconv.FormatUint(e.Seq, 10) + " " + strconv.Quote(string(e.Body[:min(len(e.Body), 70)])) + "}"
}

// number reads a short number as the library does, and refuses those that are written with more digits than they have.
func number(b []byte) (uint64, []byte, bool) {
	x, n := binary.Uvarint(b)
	if n <= 0 || !bytes.Equal(binary.AppendUvarint(nil, x), b[:n]) {
		return 0, nil, false
	}
	return x, b[n:], true
}

// told tells the entry whose bytes are b, by other means than the program's.
func told(b []byte) (api.Entry, bool) {
	producer, b, ok1 := number(b)
	seq, b, ok2 := number(b)
	size, b, ok3 := number(b)
	ok := ok1 && ok2 && ok3 && producer >= 1 && producer <= 15 && seq >= 1 && seq <= top && size <= 64 && size == uint64(len(b))
	if !ok {
		return api.Entry{}, false
	}
	return made(int(producer), seq, string(b)), true
}

// decodes looks whether Decode answers that entry, and nothing beside ErrForm where there is none.
func decodes(t *testing.T, b []byte, want api.Entry, ok bool) {
	t.Helper()
	code := api.ErrForm
	if ok {
		code = api.OK
	}
	if e, got := entry.Decode(b); !alike(e, want) || got != code {
		t.Errorf("Decode(%x): %s, %d, not %s, %d", b[:min(len(b), 80)], tell(e), got, tell(want), code)
	}
}

// refused looks whether Decode answers ErrForm, and nothing beside.
func refused(t *testing.T, b []byte) {
	t.Helper()
	decodes(t, b, api.Entry{}, false)
}

// looked looks whether Decode answers what the model does, and tells whether there is an entry.
func looked(t *testing.T, b []byte) bool {
	t.Helper()
	e, ok := told(b)
	decodes(t, b, e, ok)
	return ok
}

// key tells a key by its numbers.
func key(ledger, n uint64) api.Key { return api.Key{Ledger: ledger, N: n} }

// keys tells all keys of those numbers, and of each whether it may be.
func keys() map[api.Key]bool {
	all := map[api.Key]bool{}
	for ledger, l := range counts {
		for n, ok := range counts {
			all[key(ledger, n)] = l && ok
		}
	}
	return all
}

// order tells which of two keys stands ahead as the chapter's words say it.
func order(a, b api.Key) int {
	switch {
	case a.Ledger < b.Ledger:
		return -1
	case a.Ledger > b.Ledger:
		return 1
	case a.N < b.N:
		return -1
	case a.N > b.N:
		return 1
	}
	return 0
}

// inOrder tells the keys in their order, each once, by going on from the least to the next one of all.
func inOrder(l []api.Key) []api.Key {
	var sorted []api.Key
	for {
		var least *api.Key
		for i := range l {
			behind := len(sorted) == 0 || order(sorted[len(sorted)-1], l[i]) < 0
			if behind && (least == nil || order(l[i], *least) < 0) {
				least = &l[i]
			}
		}
		if least == nil {
			return sorted
		}
		sorted = append(sorted, *least)
	}
}
