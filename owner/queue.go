package owner

import "iter"

// queue is a row of those who wait, in the order in which they came.
type queue[T any] []T

// come has one more wait, behind the others.
func (q *queue[T]) come(x T) { *q = append(*q, x) }

// all goes over those who wait, each where it stands.
func (q *queue[T]) all() iter.Seq[*T] {
	return func(yield func(*T) bool) {
		for i := range *q {
			if !yield(&(*q)[i]) {
				return
			}
		}
	}
}

// find tells the first one that is as asked, where it stands; nil: none is.
func (q *queue[T]) find(is func(*T) bool) *T {
	for x := range q.all() {
		if is(x) {
			return x
		}
	}
	return nil
}

// drop has all that are as asked wait no more.
func (q *queue[T]) drop(is func(*T) bool) {
	var stay queue[T]
	for x := range q.all() {
		if !is(x) {
			stay.come(*x)
		}
	}
	*q = stay
}
