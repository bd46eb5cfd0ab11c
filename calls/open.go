package calls

// open is the calls that are not over, to be found by tag, by op and by Until.
type open struct {
	last  int // the tag of the one that was added last
	byTag map[int]*waiting
	ofOp  map[int]tags // only ops that have some
	queue queue
}

// tags are some calls.
type tags map[int]struct{}

// add gives a call the next tag, and answers it.
func (o *open) add(c Call) int {
	o.last++
	c.Tag = o.last
	w := &waiting{Call: c}
	o.byTag[c.Tag] = w
	if o.ofOp[c.Op] == nil {
		o.ofOp[c.Op] = tags{}
	}
	o.ofOp[c.Op][c.Tag] = struct{}{}
	o.queue.add(w)
	return c.Tag
}

// over forgets one that is there.
func (o *open) over(w *waiting) {
	o.queue.drop(w)
	delete(o.byTag, w.Tag)
	delete(o.ofOp[w.Op], w.Tag)
	if len(o.ofOp[w.Op]) == 0 {
		delete(o.ofOp, w.Op)
	}
}
