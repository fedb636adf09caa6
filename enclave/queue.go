package enclave

// queue keeps what waits, in the order in which it came.
type queue[T any] struct{ waiting []T }

// put adds one that waits.
func (q *queue[T]) put(x T) { q.waiting = append(q.waiting, x) }

// isEmpty reports whether nothing waits.
func (q *queue[T]) isEmpty() bool { return len(q.waiting) == 0 }

// take takes out the one that came first; something has to wait.
func (q *queue[T]) take() T {
	x := q.waiting[0]
	q.waiting = q.waiting[1:]
	return x
}
