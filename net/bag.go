package net

import (
	"iter"
	"slices"
)

// bag has items in the order in which they were put in, numbered from 0 on.
type bag[T any] struct {
	items []T
}

// has tells whether there is an item of that number.
func (b *bag[T]) has(i int) bool { return i >= 0 && i < len(b.items) }

// put has an item be the last one.
func (b *bag[T]) put(item T) { b.items = append(b.items, item) }

// take takes an item away; those behind it have a number one less then.
func (b *bag[T]) take(i int) { b.items = slices.Delete(b.items, i, i+1) }

// onward goes over the items from a number on.
func (b *bag[T]) onward(from int) iter.Seq2[int, T] {
	return func(yield func(int, T) bool) {
		for i := max(from, 0); i < len(b.items); i++ {
			if !yield(i, b.items[i]) {
				return
			}
		}
	}
}

// clone tells a bag of its own with the same items.
func (b *bag[T]) clone() bag[T] { return bag[T]{items: slices.Clone(b.items)} }
