package timers

import "cmp"

// thing knows its place in the queue, so that it is found there without a search when it is set anew or taken away.
type thing struct {
	id, at, place int
}

// queue is a heap of container/heap: the thing that comes due first is at its head.
type queue []*thing

func (q queue) Len() int { return len(q) }

func (q queue) Less(i, j int) bool {
	// Held against each other, not taken from each other: a difference could wrap.
	return cmp.Or(cmp.Compare(q[i].at, q[j].at), cmp.Compare(q[i].id, q[j].id)) < 0
}

func (q queue) Swap(i, j int) {
	q[i], q[j] = q[j], q[i]
	q[i].place, q[j].place = i, j
}

func (q *queue) Push(x any) {
	y := x.(*thing)
	y.place = len(*q)
	*q = append(*q, y)
}

func (q *queue) Pop() any {
	end := len(*q) - 1
	last := (*q)[end]
	(*q)[end] = nil // the spare room keeps nothing that is gone
	*q = (*q)[:end]
	return last
}
