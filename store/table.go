package store

import (
	"iter"
	"maps"
	"slices"
)

// table has rows by keys, each of which is of a ledger.
type table[K comparable, V any] struct {
	rows   map[K]V
	order  func(a, b K) int
	ledger func(K) uint64
}

// newTable tells a table without rows.
func newTable[K comparable, V any](order func(a, b K) int, ledger func(K) uint64) table[K, V] {
	return table[K, V]{rows: map[K]V{}, order: order, ledger: ledger}
}

// has tells whether there is a row of that key.
func (t table[K, V]) has(k K) bool {
	_, ok := t.rows[k]
	return ok
}

// inOrder goes over the rows, by their keys.
func (t table[K, V]) inOrder() iter.Seq2[K, V] {
	return func(yield func(K, V) bool) {
		for _, k := range slices.SortedFunc(maps.Keys(t.rows), t.order) {
			if !yield(k, t.rows[k]) {
				return
			}
		}
	}
}

// hasOf tells whether there is a row of one of those ledgers.
func (t table[K, V]) hasOf(those func(ledger uint64) bool) bool {
	for k := range t.rows {
		if those(t.ledger(k)) {
			return true
		}
	}
	return false
}

// drop deletes the rows of those ledgers.
func (t table[K, V]) drop(those func(ledger uint64) bool) {
	for k := range t.rows {
		if those(t.ledger(k)) {
			delete(t.rows, k)
		}
	}
}
