package calls

import "container/heap"

// waiting is a call that is not over.
type waiting struct {
	Call
	place int // in the queue
}

// queue is calls for container/heap: the one that is late first is the least.
type queue []*waiting

// add puts one in.
func (q *queue) add(w *waiting) {
	heap.Push(q, w)
}

// drop takes one that is in it out.
func (q *queue) drop(w *waiting) {
	heap.Remove(q, w.place)
}

func (q queue) Len() int { return len(q) }

func (q queue) Less(i, j int) bool { return q[i].Until < q[j].Until }

// Swap keeps the places right, without which drop could not find what it is to take.
func (q queue) Swap(i, j int) {
	q[i], q[j] = q[j], q[i]
	q[i].place, q[j].place = i, j
}

// Push is for heap.Push alone.
func (q *queue) Push(x any) {
	w := x.(*waiting)
	w.place = len(*q)
	*q = append(*q, w)
}

// Pop is for heap.Remove alone.
func (q *queue) Pop() any {
	last := len(*q) - 1
	w := (*q)[last]
	(*q)[last] = nil // else what is over would be kept in the spare room
	*q = (*q)[:last]
	return w
}
