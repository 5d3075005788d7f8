package writer

// queue is a row of those who wait: who comes is behind the others, who goes is ahead of them.
type queue[T any] []T

// come has one more wait, and tells it where it stands.
func (q *queue[T]) come(x T) *T {
	*q = append(*q, x)
	return &(*q)[len(*q)-1]
}

// first tells the first one where it stands; nil: nobody waits.
func (q *queue[T]) first() *T { return q.find(func(*T) bool { return true }) }

// find tells the first one that is as asked, where it stands; nil: none is.
func (q *queue[T]) find(is func(*T) bool) *T {
	for i := range *q {
		if x := &(*q)[i]; is(x) {
			return x
		}
	}
	return nil
}

// each has something done to all, in their order.
func (q *queue[T]) each(does func(*T)) {
	for i := range *q {
		does(&(*q)[i])
	}
}

// goes has the first one wait no more.
func (q *queue[T]) goes() { *q = (*q)[1:] }
