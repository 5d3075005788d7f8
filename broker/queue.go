package broker

import "slices"

// queue is a row of those who wait, in the order in which they came, so many at most.
type queue[T any] struct {
	row  []T
	most int
}

// come has one more wait, behind the others; where there is no room for it, it is left aside.
func (q *queue[T]) come(x T) {
	if q.waits() < q.most {
		q.row = append(q.row, x)
	}
}

// waits tells how many wait.
func (q *queue[T]) waits() int { return len(q.row) }

// head tells the first one that waits, where it stands; nil: none does.
func (q *queue[T]) head() *T {
	if q.waits() == 0 {
		return nil
	}
	return &q.row[0]
}

// leave has the first one wait no more.
func (q *queue[T]) leave() { q.row = slices.Delete(q.row, 0, 1) }

// own tells the same queue in memory of its own.
func (q queue[T]) own() queue[T] {
	q.row = slices.Clone(q.row)
	return q
}
