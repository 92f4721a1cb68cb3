// Package queue: what waits in a row, whatever it is: bytes, code points.
package queue

// Queue gives things back in the order in which they were put. The zero Queue is empty.
type Queue[T any] struct {
	items []T
	head  int
}

// Put adds things at the end.
func (q *Queue[T]) Put(things ...T) {
	// A queue that is never quite empty must not keep all that ever went through it.
	if q.head > len(q.items)/2 {
		q.items = q.items[:copy(q.items, q.items[q.head:])]
		q.head = 0
	}
	q.items = append(q.items, things...)
}

// Take removes the first thing; false if there is none.
func (q *Queue[T]) Take() (T, bool) {
	if q.Len() == 0 {
		var none T
		return none, false
	}
	first := q.items[q.head]
	q.Drop(1)
	return first, true
}

// Drop removes the first n things, or all if there are fewer.
func (q *Queue[T]) Drop(n int) {
	q.head += max(0, min(n, q.Len()))
	if q.Len() == 0 {
		q.items, q.head = q.items[:0], 0
	}
}

// Len is how many wait.
func (q *Queue[T]) Len() int { return len(q.items) - q.head }

// Waiting is what waits, in place: it may be reordered there, and holds till the next Put, Take or Drop.
func (q *Queue[T]) Waiting() []T { return q.items[q.head:] }
