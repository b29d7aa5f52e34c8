package decode

import "container/heap"

// queue keeps what waits; the first one, as order tells, is taken first.
type queue[T any] struct {
	order func(a, b T) int
	list  []T
}

func (q *queue[T]) put(x T) { heap.Push(q, x) }

// take takes the first one out of a queue that has one.
func (q *queue[T]) take() T { return heap.Pop(q).(T) }

// Package heap asks for these.

func (q *queue[T]) Len() int { return len(q.list) }

func (q *queue[T]) Less(i, j int) bool { return q.order(q.list[i], q.list[j]) < 0 }

func (q *queue[T]) Swap(i, j int) { q.list[i], q.list[j] = q.list[j], q.list[i] }

func (q *queue[T]) Push(x any) { q.list = append(q.list, x.(T)) }

func (q *queue[T]) Pop() any {
	last := len(q.list) - 1
	x := q.list[last]
	q.list = q.list[:last]
	return x
}
