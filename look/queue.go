package look

import (
	"container/heap"

	"fountain/api"
	"fountain/key"
)

// candidate is a peer that can be asked.
type candidate struct {
	peer     int
	ahead    int // how many were known ahead of it
	distance api.Key
}

// queue is candidates for container/heap: the one to ask next is the least.
type queue []candidate

// add puts one in.
func (q *queue) add(c candidate) {
	heap.Push(q, c)
}

// take takes the one to ask next out of a queue that is not empty.
func (q *queue) take() candidate {
	return heap.Pop(q).(candidate)
}

func (q queue) Len() int { return len(q) }

func (q queue) Swap(i, j int) { q[i], q[j] = q[j], q[i] }

// Less is by distance; of those with one key the one that was known first is ahead.
func (q queue) Less(i, j int) bool {
	if q[i].distance == q[j].distance {
		return q[i].ahead < q[j].ahead
	}
	return key.Less(q[i].distance, q[j].distance)
}

// Push is for heap.Push alone.
func (q *queue) Push(x any) {
	*q = append(*q, x.(candidate))
}

// Pop is for heap.Pop alone.
func (q *queue) Pop() any {
	last := len(*q) - 1
	x := (*q)[last]
	*q = (*q)[:last]
	return x
}
