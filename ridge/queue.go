package ridge

import "slices"

// queue keeps what waits. The least comes first, and of those that are alike the one that has waited longest.
type queue[T any] struct {
	list    []T // the last one of it comes first
	compare func(a, b T) int
}

// put lets something wait.
func (q *queue[T]) put(x T) {
	greatestFirst := func(a, b T) int { return q.compare(b, a) }
	place, _ := slices.BinarySearchFunc(q.list, x, greatestFirst)
	q.list = slices.Insert(q.list, place, x)
}

// isEmpty reports whether nothing waits.
func (q *queue[T]) isEmpty() bool { return len(q.list) == 0 }

// take returns what comes first, which waits no longer.
func (q *queue[T]) take() T {
	last := len(q.list) - 1
	x := q.list[last]
	q.list = q.list[:last]
	return x
}
