package calls

import (
	"math"
	"slices"
	"sync"
	"testing"
)

// newest is the Until of a call that is made at 2^40 or behind it.
const newest = 1099511627776 + 6

// odd are numbers at the ends of their type, and about 0 and 2^40.
var odd = []int{math.MinInt, math.MinInt + 1, -newest, math.MinInt32, -7, -6, -1, 0, 1, 2, 6, 255, math.MaxInt32, math.MaxUint32, newest - 7, newest - 6, newest - 5, newest, math.MaxInt - 6, math.MaxInt - 1, math.MaxInt}

// chance makes numbers.
type chance uint32

func (c *chance) below(n int) int {
	*c = *c*1664525 + 1013904223
	return int(*c>>9) % n
}

// Kinds of steps.
const (
	add  = 'a'
	take = 't'
	late = 'l'
	end  = 'e'
)

// step is one call of a method.
type step struct {
	kind               rune
	tag, op, peer, now int
}

// told is what a step answers, and what Len tells behind it.
type told struct {
	tag  int
	call Call
	is   bool
	late []Call
	left int
}

func sameTold(a, b told) bool {
	return a.tag == b.tag && a.call == b.call && a.is == b.is && slices.Equal(a.late, b.late) && a.left == b.left
}

func (s step) ofCalls(c *Calls) told {
	var got told
	switch s.kind {
	case add:
		got.tag = c.Add(s.op, s.peer, s.now)
	case take:
		got.call, got.is = c.Take(s.tag, s.peer)
	case late:
		got.late = c.Late(s.now)
	case end:
		c.End(s.op)
	}
	got.left = c.Len()
	return got
}

// twin is calls by the chapter's words alone: all that were ever added, and which of them are over.
type twin struct {
	all  []Call
	over []bool
}

func (w *twin) add(op, peer, now int) int {
	until := newest
	if now <= 1099511627776 {
		until = now + 6
	}
	w.all, w.over = append(w.all, Call{len(w.all) + 1, op, peer, until}), append(w.over, false)
	return len(w.all)
}

// end makes those over that are asked for, and tells them.
func (w *twin) end(asked func(x Call) bool) []Call {
	var ended []Call
	for i, x := range w.all {
		if !w.over[i] && asked(x) {
			w.over[i] = true
			ended = append(ended, x)
		}
	}
	return ended
}

func (w *twin) left() int {
	n := 0
	for _, over := range w.over {
		if !over {
			n++
		}
	}
	return n
}

func (s step) ofTwin(w *twin) told {
	var got told
	switch s.kind {
	case add:
		got.tag = w.add(s.op, s.peer, s.now)
	case take:
		for _, x := range w.end(func(x Call) bool { return x.Tag == s.tag && x.Peer == s.peer }) {
			got.call, got.is = x, true
		}
	case late:
		got.late = w.end(func(x Call) bool { return x.Until < s.now })
	case end:
		w.end(func(x Call) bool { return x.Op == s.op })
	}
	got.left = w.left()
	return got
}

// adds adds one, of which the tag is known.
func adds(t *testing.T, promise, when string, c *Calls, op, peer, now, want int) {
	t.Helper()
	if got := c.Add(op, peer, now); got != want {
		t.Errorf("%s: %s: Add is %d, not %d", promise, when, got, want)
	}
}

// takes takes one that is there.
func takes(t *testing.T, promise, when string, c *Calls, want Call) {
	t.Helper()
	if got, is := c.Take(want.Tag, want.Peer); !is || got != want {
		t.Errorf("%s: %s: Take is %v, %v, not %v, true", promise, when, got, is, want)
	}
}

// misses finds that there is none to take, twice.
func misses(t *testing.T, promise, when string, c *Calls, tag, peer int) {
	t.Helper()
	for range 2 {
		before := c.Len()
		if got, is := c.Take(tag, peer); is || got != (Call{}) {
			t.Errorf("%s: %s: Take(%d, %d) is %v, %v", promise, when, tag, peer, got, is)
		}
		has(t, promise, when, c, before)
	}
}

// lates finds these to be late, and then none.
func lates(t *testing.T, promise, when string, c *Calls, now int, want ...Call) {
	t.Helper()
	before := c.Len()
	if got := c.Late(now); !slices.Equal(got, want) {
		t.Errorf("%s: %s: Late(%d) is %v, not %v", promise, when, now, got, want)
	}
	has(t, promise, when, c, before-len(want))
	if got := c.Late(now); len(got) != 0 {
		t.Errorf("%s: %s: Late(%d) again is %v", promise, when, now, got)
	}
	has(t, promise, when, c, before-len(want))
}

// has asks how many there are, twice.
func has(t *testing.T, promise, when string, c *Calls, want int) {
	t.Helper()
	for range 2 {
		if got := c.Len(); got != want {
			t.Errorf("%s: %s: Len is %d, not %d", promise, when, got, want)
		}
	}
}

// holds finds just these left: it takes each of them, and nothing else is there then.
func holds(t *testing.T, promise, when string, c *Calls, want ...Call) {
	t.Helper()
	has(t, promise, when, c, len(want))
	for i, x := range want {
		takes(t, promise, when, c, x)
		has(t, promise, when, c, len(want)-i-1)
	}
	lates(t, promise, when+", all taken", c, math.MaxInt)
}

// some are three calls of two ops to two peers, whose Until are 16, 13 and 19.
func some(t *testing.T) (*Calls, []Call) {
	t.Helper()
	c := &Calls{}
	adds(t, "P2101", "some", c, 4, 8, 10, 1)
	adds(t, "P2101", "some", c, 5, 9, 7, 2)
	adds(t, "P2101", "some", c, 4, 9, 13, 3)
	return c, []Call{{1, 4, 8, 16}, {2, 5, 9, 13}, {3, 4, 9, 19}}
}

func TestP2101Example(t *testing.T) {
	var x Calls
	for _, c := range []*Calls{&x, {}, new(Calls)} {
		has(t, "P2101", "none", c, 0)
		for _, n := range odd {
			lates(t, "P2101", "none", c, n)
			for _, peer := range odd {
				misses(t, "P2101", "none", c, n, peer)
			}
			c.End(n)
			has(t, "P2101", "none", c, 0)
		}
		adds(t, "P2101", "the first one", c, 4, 8, 10, 1)
		holds(t, "P2101", "the first one", c, Call{1, 4, 8, 16})
	}
}

func TestP2101ByHand(t *testing.T) {
	c := &Calls{}
	none := Call{}
	for i, w := range []struct {
		step
		told
	}{
		{step{add, 0, 4, 8, 10}, told{1, none, false, nil, 1}},
		{step{add, 0, 5, 9, 7}, told{2, none, false, nil, 2}},
		{step{add, 0, 4, 9, 13}, told{3, none, false, nil, 3}},
		{step{take, 1, 0, 9, 0}, told{0, none, false, nil, 3}},
		{step{late, 0, 0, 0, 13}, told{0, none, false, nil, 3}},
		{step{take, 1, 0, 8, 0}, told{0, Call{1, 4, 8, 16}, true, nil, 2}},
		{step{take, 1, 0, 8, 0}, told{0, none, false, nil, 2}},
		{step{add, 0, 6, 9, 2}, told{4, none, false, nil, 3}},
		{step{late, 0, 0, 0, 14}, told{0, none, false, []Call{{2, 5, 9, 13}, {4, 6, 9, 8}}, 1}},
		{step{late, 0, 0, 0, 14}, told{0, none, false, nil, 1}},
		{step{take, 2, 0, 9, 0}, told{0, none, false, nil, 1}},
		{step{end, 0, 5, 0, 0}, told{0, none, false, nil, 1}},
		{step{add, 0, 5, 8, 13}, told{5, none, false, nil, 2}},
		{step{add, 0, 4, 8, -20}, told{6, none, false, nil, 3}},
		{step{end, 0, 4, 0, 0}, told{0, none, false, nil, 1}},
		{step{take, 3, 0, 9, 0}, told{0, none, false, nil, 1}},
		{step{late, 0, 0, 0, 19}, told{0, none, false, nil, 1}},
		{step{late, 0, 0, 0, 20}, told{0, none, false, []Call{{5, 5, 8, 19}}, 0}},
		{step{add, 0, 5, 8, 13}, told{7, none, false, nil, 1}},
		{step{take, 7, 0, 8, 0}, told{0, Call{7, 5, 8, 19}, true, nil, 0}},
		{step{late, 0, 0, 0, math.MaxInt}, told{0, none, false, nil, 0}},
	} {
		if got := w.step.ofCalls(c); !sameTold(got, w.told) {
			t.Errorf("P2101: call %d of %v is %v, not %v", i, w.step, got, w.told)
		}
	}
}

func TestP2101AddTellsTagsOfTheirOwn(t *testing.T) {
	over := []func(c *Calls, tag int){
		func(c *Calls, tag int) {},
		func(c *Calls, tag int) { c.Take(tag, 8) },
		func(c *Calls, tag int) { c.Late(17) },
		func(c *Calls, tag int) { c.End(4) },
		func(c *Calls, tag int) { c.Take(tag, 9); c.Late(16); c.End(5) },
		func(c *Calls, tag int) { c.Take(tag-1, 8); c.Late(math.MaxInt); c.End(4) },
	}
	for i, f := range over {
		c := &Calls{}
		for tag := 1; tag < 50; tag++ {
			adds(t, "P2101", "tags", c, 4, 8, 10, tag)
			f(c, tag)
			if want := []int{tag, 0, 0, 0, tag, 0}[i]; c.Len() != want {
				t.Fatalf("P2101: tags: behind way %d to be over Len is %d, not %d", i, c.Len(), want)
			}
		}
	}
	c := &Calls{}
	for tag := 1; tag < 50; tag++ {
		// The same op, peer and now, and others.
		adds(t, "P2101", "tags", c, odd[tag%len(odd)], odd[tag/3%len(odd)], odd[tag/5%len(odd)], tag)
		has(t, "P2101", "tags", c, tag)
	}
}

func TestP2101Until(t *testing.T) {
	for _, w := range []struct{ now, until int }{
		{0, 6}, {1, 7}, {100, 106}, {-1, 5}, {-5, 1}, {-6, 0}, {-7, -1}, {-100, -94},
		{math.MaxInt32, math.MaxInt32 + 6}, {math.MaxUint32, math.MaxUint32 + 6}, {1 << 30, 1<<30 + 6}, {1<<39 + 1, 1<<39 + 7},
		{1099511627769, 1099511627775}, {1099511627770, 1099511627776}, {1099511627775, 1099511627781},
		{1099511627776, 1099511627782}, {1099511627777, 1099511627782}, {1099511627778, 1099511627782}, {1099511627782, 1099511627782}, {1099511627783, 1099511627782},
		{1 << 41, 1099511627782}, {1 << 62, 1099511627782}, {math.MaxInt - 7, 1099511627782}, {math.MaxInt - 6, 1099511627782}, {math.MaxInt - 5, 1099511627782}, {math.MaxInt - 1, 1099511627782}, {math.MaxInt, 1099511627782},
		{-1099511627775, -1099511627769}, {-1099511627776, -1099511627770}, {-1099511627777, -1099511627771}, {math.MinInt + 1, math.MinInt + 7}, {math.MinInt, math.MinInt + 6},
	} {
		c := &Calls{}
		adds(t, "P2101", "until", c, 4, 8, w.now, 1)
		adds(t, "P2101", "until", c, 4, 8, w.now, 2)
		want := []Call{{1, 4, 8, w.until}, {2, 4, 8, w.until}}
		takes(t, "P2101", "until", c, want[0])
		lates(t, "P2101", "below Until", c, w.until-1)
		lates(t, "P2101", "at Until", c, w.until)
		lates(t, "P2101", "above Until", c, w.until+1, want[1])
		has(t, "P2101", "above Until", c, 0)
	}
}

func TestP2101OddNumbers(t *testing.T) {
	c := &Calls{}
	var all []Call
	for _, op := range odd {
		for _, peer := range odd {
			tag := len(all) + 1
			adds(t, "P2101", "odd", c, op, peer, 10, tag)
			all = append(all, Call{tag, op, peer, 16})
		}
	}
	for i, x := range all {
		for _, peer := range odd {
			if peer != x.Peer {
				misses(t, "P2101", "odd, of another peer", c, x.Tag, peer)
			}
		}
		if i%3 == 0 {
			takes(t, "P2101", "odd", c, x)
			misses(t, "P2101", "odd, taken", c, x.Tag, x.Peer)
		}
	}
	left := slices.DeleteFunc(slices.Clone(all), func(x Call) bool { return x.Tag%3 == 1 })
	has(t, "P2101", "odd, some are taken", c, len(left))
	for i, op := range odd {
		if i%2 == 0 {
			c.End(op)
			left = slices.DeleteFunc(left, func(x Call) bool { return x.Op == op })
			has(t, "P2101", "odd, some are ended", c, len(left))
		}
	}
	lates(t, "P2101", "odd", c, 17, left...)
	has(t, "P2101", "odd, the others are late", c, 0)
}

func TestP2101Take(t *testing.T) {
	for _, order := range [][]int{{0, 1, 2}, {0, 2, 1}, {1, 0, 2}, {1, 2, 0}, {2, 0, 1}, {2, 1, 0}} {
		c, l := some(t)
		for i, n := range order {
			takes(t, "P2101", "take", c, l[n])
			has(t, "P2101", "take", c, 2-i)
			misses(t, "P2101", "taken already", c, l[n].Tag, l[n].Peer)
		}
		lates(t, "P2101", "all are taken", c, math.MaxInt)
		for n := range order {
			takenLeaves, all := some(t)
			takes(t, "P2101", "one is taken", takenLeaves, all[n])
			holds(t, "P2101", "one is taken", takenLeaves, slices.Delete(all, n, n+1)...)
		}
	}
}

func TestP2101TakeOfNone(t *testing.T) {
	for _, w := range []struct {
		name      string
		tag, peer int
	}{
		{"of another peer", 1, 9}, {"of another peer", 2, 8}, {"of another peer", 3, 8}, {"of its op", 1, 4}, {"of its tag", 1, 1}, {"of its tag", 3, 3}, {"of no peer", 1, 0}, {"of a peer below 0", 1, -8},
		{"one more", 4, 8}, {"one more", 4, 9}, {"tag 0", 0, 8}, {"tag 0", 0, 0}, {"tag 0", 0, 9}, {"below 0", -1, 8}, {"below 0", -2, 9}, {"below 0", -3, 9},
		{"the least", math.MinInt, 8}, {"the greatest", math.MaxInt, 9}, {"2^32 more", 1<<32 + 1, 8}, {"2^32 more", 1, 1<<32 + 8}, {"2^32 less", 2 - 1<<32, 9},
	} {
		c, l := some(t)
		misses(t, "P2101", w.name, c, w.tag, w.peer)
		holds(t, "P2101", w.name, c, l...)
		for _, x := range l {
			misses(t, "P2101", "all are over", c, x.Tag, x.Peer)
		}
		adds(t, "P2101", w.name, c, 4, 8, 10, 4)
	}
}

func TestP2101TakeOfOneThatIsOver(t *testing.T) {
	for _, w := range []struct {
		name string
		over func(c *Calls)
	}{
		{"taken", func(c *Calls) { c.Take(2, 9) }},
		{"late", func(c *Calls) { c.Late(14) }},
		{"ended", func(c *Calls) { c.End(5) }},
	} {
		c, l := some(t)
		w.over(c)
		has(t, "P2101", w.name, c, 2)
		misses(t, "P2101", w.name, c, 2, 9)
		misses(t, "P2101", w.name, c, 2, 8)
		lates(t, "P2101", w.name, c, 16)
		c.End(5)
		has(t, "P2101", w.name, c, 2)
		adds(t, "P2101", w.name, c, 5, 9, 7, 4)
		misses(t, "P2101", w.name+", another one like it", c, 2, 9)
		holds(t, "P2101", w.name, c, Call{4, 5, 9, 13}, l[2], l[0])
	}
}

func TestP2101Late(t *testing.T) {
	for _, w := range []struct {
		now  int
		late []int
	}{
		{math.MinInt, nil}, {-1, nil}, {0, nil}, {12, nil}, {13, nil}, {14, []int{1}}, {15, []int{1}}, {16, []int{1}}, {17, []int{0, 1}},
		{18, []int{0, 1}}, {19, []int{0, 1}}, {20, []int{0, 1, 2}}, {21, []int{0, 1, 2}}, {newest, []int{0, 1, 2}}, {math.MaxInt, []int{0, 1, 2}},
	} {
		c, l := some(t)
		var want, left []Call
		for i, x := range l {
			if slices.Contains(w.late, i) {
				want = append(want, x)
			} else {
				left = append(left, x)
			}
		}
		lates(t, "P2101", "late", c, w.now, want...)
		for _, x := range want {
			misses(t, "P2101", "late", c, x.Tag, x.Peer)
		}
		lates(t, "P2101", "late, and earlier", c, max(w.now, math.MinInt+1)-1)
		holds(t, "P2101", "not late", c, left...)
	}
}

func TestP2101LateIsNotCut(t *testing.T) {
	c := &Calls{}
	for i, now := range []int{1 << 40, math.MaxInt, 1<<40 - 1, math.MinInt} {
		adds(t, "P2101", "not cut", c, 4, 8, now, i+1)
	}
	lates(t, "P2101", "the least", c, math.MinInt)
	lates(t, "P2101", "the least and 6", c, math.MinInt+6)
	lates(t, "P2101", "the least and 7", c, math.MinInt+7, Call{4, 4, 8, math.MinInt + 6})
	lates(t, "P2101", "2^40", c, 1<<40)
	lates(t, "P2101", "2^40 and 5", c, 1<<40+5)
	lates(t, "P2101", "2^40 and 6", c, 1<<40+6, Call{3, 4, 8, 1<<40 + 5})
	lates(t, "P2101", "2^40 and 7", c, 1<<40+7, Call{1, 4, 8, newest}, Call{2, 4, 8, newest})
	adds(t, "P2101", "not cut", c, 4, 8, math.MaxInt, 5)
	lates(t, "P2101", "the greatest", c, math.MaxInt, Call{5, 4, 8, newest})
}

// orders are all orders of the numbers below n.
func orders(n int) [][]int {
	if n == 0 {
		return [][]int{nil}
	}
	var all [][]int
	for _, o := range orders(n - 1) {
		for i := range n {
			all = append(all, slices.Insert(slices.Clone(o), i, n-1))
		}
	}
	return all
}

func TestP2101LateByTag(t *testing.T) {
	for _, o := range orders(6) {
		c := &Calls{}
		var all []Call
		for i, now := range o {
			adds(t, "P2101", "by tag", c, now%2, now%3, now*10, i+1)
			all = append(all, Call{i + 1, now % 2, now % 3, now*10 + 6})
		}
		for n, now := range []int{26, 57} {
			var want []Call
			for _, x := range all {
				if n == 0 && x.Until < 26 || n == 1 && x.Until >= 26 {
					want = append(want, x)
				}
			}
			lates(t, "P2101", "by tag", c, now, want...)
			has(t, "P2101", "by tag", c, 4-4*n)
		}
	}
}

func TestP2101LateOfOneUntil(t *testing.T) {
	for n := range 20 {
		for gone := range n {
			c := &Calls{}
			var want []Call
			for i := range n {
				adds(t, "P2101", "one Until", c, i%3, i%2, 10, i+1)
				if i != gone {
					want = append(want, Call{i + 1, i % 3, i % 2, 16})
				}
			}
			takes(t, "P2101", "one Until", c, Call{gone + 1, gone % 3, gone % 2, 16})
			lates(t, "P2101", "one Until", c, 16)
			lates(t, "P2101", "one Until", c, 17, want...)
		}
	}
}

func TestP2101End(t *testing.T) {
	for _, w := range []struct {
		op   int
		left []int
	}{
		{4, []int{1}}, {5, []int{0, 2}}, {8, []int{0, 1, 2}}, {9, []int{0, 1, 2}}, {0, []int{0, 1, 2}}, {1, []int{0, 1, 2}}, {2, []int{0, 1, 2}}, {16, []int{0, 1, 2}}, {-4, []int{0, 1, 2}},
		{4 + 1<<32, []int{0, 1, 2}}, {math.MinInt, []int{0, 1, 2}}, {math.MaxInt, []int{0, 1, 2}},
	} {
		c, l := some(t)
		var left []Call
		for _, i := range w.left {
			left = append(left, l[i])
		}
		for range 2 {
			c.End(w.op)
			has(t, "P2101", "end", c, len(left))
		}
		for i, x := range l {
			if !slices.Contains(w.left, i) {
				misses(t, "P2101", "ended", c, x.Tag, x.Peer)
			}
		}
		adds(t, "P2101", "ended, and one more", c, w.op, 8, 30, 4)
		lates(t, "P2101", "ended", c, 36, left...)
		holds(t, "P2101", "ended, and one more", c, Call{4, w.op, 8, 36})
	}
}

func TestP2101EndOfWhatIsOver(t *testing.T) {
	c, l := some(t)
	takes(t, "P2101", "end", c, l[0])
	c.End(4)
	has(t, "P2101", "one was taken, one ended", c, 1)
	c.End(4)
	has(t, "P2101", "all of the op are over", c, 1)
	adds(t, "P2101", "the op again", c, 4, 8, 1, 4)
	holds(t, "P2101", "the op again", c, l[1], Call{4, 4, 8, 7})
	c, l = some(t)
	lates(t, "P2101", "end", c, 17, l[0], l[1])
	c.End(5)
	has(t, "P2101", "the op's was late", c, 1)
	c.End(4)
	has(t, "P2101", "one of the op was late", c, 0)
	adds(t, "P2101", "behind all", c, 0, 0, 0, 4)
	c.End(0)
	lates(t, "P2101", "op 0", c, math.MaxInt)
}

func TestP2101Many(t *testing.T) {
	const many = 100000
	c := &Calls{}
	call := func(tag int) Call { return Call{tag, tag % 10000, tag % 7, tag*7919%many + 6} }
	for tag := 1; tag <= 4*many; tag++ {
		if got := c.Add(call(tag).Op, call(tag).Peer, call(tag).Until-6); got != tag {
			t.Fatalf("P2101: of many: Add is %d, not %d", got, tag)
		}
	}
	for tag := 1; tag <= many; tag++ {
		if got, is := c.Take(tag, tag%7); !is || got != call(tag) {
			t.Fatalf("P2101: of many: Take is %v, %v, not %v", got, is, call(tag))
		}
	}
	for op := range 5000 {
		c.End(op)
	}
	has(t, "P2101", "of many", c, 3*many/2)
	n := 0
	for now := range many + 7 {
		got := c.Late(now)
		for i, x := range got {
			if x != call(x.Tag) || x.Until != now-1 || x.Tag <= many || x.Op < 5000 || i > 0 && x.Tag <= got[i-1].Tag {
				t.Fatalf("P2101: of many: Late(%d) is %v", now, got)
			}
		}
		n += len(got)
		if c.Len() != 3*many/2-n {
			t.Fatalf("P2101: of many: Len is %d, with %d late", c.Len(), n)
		}
	}
	has(t, "P2101", "of many", c, 0)
	adds(t, "P2101", "of many", c, 0, 0, 0, 4*many+1)
}

// everyRow does every row of n of these steps behind those of the row, with calls and their twin.
func everyRow(t *testing.T, steps, row []step, n int) {
	if n == 0 {
		c, w := &Calls{}, &twin{}
		for i, s := range row {
			if got, want := s.ofCalls(c), s.ofTwin(w); !sameTold(got, want) {
				t.Fatalf("P2101: call %d of %v is %v, not %v", i, row, got, want)
			}
		}
		return
	}
	for _, s := range steps {
		everyRow(t, steps, append(row, s), n-1)
	}
}

func TestP2101EveryRowOfCalls(t *testing.T) {
	steps := []step{{add, 0, 1, 1, 3}, {add, 0, 2, 1, 1}, {add, 0, 1, 2, 2}, {take, 1, 0, 1, 0}, {take, 2, 0, 1, 0}, {late, 0, 0, 0, 8}, {late, 0, 0, 0, 9}, {end, 0, 1, 0, 0}}
	for n := range 6 {
		everyRow(t, steps, nil, n)
	}
	begun := []step{{add, 0, 1, 2, 5}, {add, 0, 2, 1, 2}, {add, 0, 1, 1, 3}, {add, 0, 3, 1, 2}}
	steps = []step{{add, 0, 1, 1, 3}, {take, 1, 0, 2, 0}, {take, 3, 0, 1, 0}, {take, 4, 0, 1, 0}, {late, 0, 0, 0, 9}, {late, 0, 0, 0, 10}, {end, 0, 1, 0, 0}, {end, 0, 2, 0, 0}}
	for n := range 6 {
		everyRow(t, steps, begun, n)
	}
}

// drawnRow are n steps with so many ops and peers and nows below most; the more the last number, the fewer of them are Adds.
func drawnRow(c *chance, n, ops, peers, most, few int) []step {
	var row []step
	tags := 0
	for range n {
		s := step{add, 0, c.below(ops), c.below(peers), c.below(most)}
		if c.below(1+few) == 0 {
			tags++
			row = append(row, s)
			continue
		}
		s.kind, s.tag = take, tags+2-c.below(min(tags, 30)+4)
		switch c.below(8) {
		case 0:
			s.kind, s.now = late, s.now*2/3
		case 1:
			s.kind = end
		}
		row = append(row, s)
	}
	return row
}

func TestP2101DrawnRowsOfCalls(t *testing.T) {
	r := chance(2101)
	for n := range 150 {
		c, w := &Calls{}, &twin{}
		for i, s := range drawnRow(&r, 400, 1+n%17, 1+n%4, 10+n*n, 1+n%3) {
			if n%5 == 0 && s.kind == late {
				s.now = i / 3
			}
			if n%5 == 0 && s.kind == add {
				// As time goes by, as a peer has it.
				s.now = i / 2
			}
			if got, want := s.ofCalls(c), s.ofTwin(w); !sameTold(got, want) {
				t.Fatalf("P2101: call %d (%v) of row %d is %v, not %v", i, s, n, got, want)
			}
		}
		lates(t, "P2101", "the rest of a row", c, math.MaxInt, w.end(func(Call) bool { return true })...)
	}
}

func TestP2101DrawnRowsOfOddNumbers(t *testing.T) {
	r := chance(21011)
	for n := range 60 {
		c, w := &Calls{}, &twin{}
		for i, s := range drawnRow(&r, 300, len(odd), len(odd), len(odd), 1+n%2) {
			s.op, s.now = odd[s.op], odd[s.now]
			s.peer = odd[s.peer%(1+n%len(odd))]
			if got, want := s.ofCalls(c), s.ofTwin(w); !sameTold(got, want) {
				t.Fatalf("P2101: call %d (%v) of row %d is %v, not %v", i, s, n, got, want)
			}
		}
	}
}

func TestP2102NilOne(t *testing.T) {
	var none *Calls
	beside, l := some(t)
	for range 2 {
		for i, n := range odd {
			other := odd[len(odd)-1-i]
			adds(t, "P2102", "a nil one", none, n, other, n, 0)
			adds(t, "P2102", "a nil one", none, other, n, other, 0)
			misses(t, "P2102", "a nil one", none, n, other)
			misses(t, "P2102", "a nil one", none, n, n)
			lates(t, "P2102", "a nil one", none, n)
			none.End(n)
			has(t, "P2102", "a nil one", none, 0)
		}
		adds(t, "P2102", "a nil one", none, 4, 8, 10, 0)
		misses(t, "P2102", "a nil one", none, 1, 8)
		misses(t, "P2102", "a nil one", none, 2, 9)
		none.End(4)
		lates(t, "P2102", "a nil one", none, math.MaxInt)
	}
	holds(t, "P2102", "beside a nil one", beside, l...)
}

func TestP2102TwoHaveNothingInCommon(t *testing.T) {
	x, y := &Calls{}, &Calls{}
	adds(t, "P2102", "the first of two", x, 4, 8, 10, 1)
	has(t, "P2102", "the second of two", y, 0)
	misses(t, "P2102", "the second of two", y, 1, 8)
	lates(t, "P2102", "the second of two", y, math.MaxInt)
	y.End(4)
	has(t, "P2102", "the first of two", x, 1)
	adds(t, "P2102", "the first of two", x, 5, 8, 10, 2)
	adds(t, "P2102", "the second of two", y, 4, 9, 20, 1)
	adds(t, "P2102", "the second of two", y, 5, 8, 10, 2)
	misses(t, "P2102", "the first of two", x, 1, 9)
	misses(t, "P2102", "the second of two", y, 1, 8)
	y.End(5)
	has(t, "P2102", "the first of two", x, 2)
	lates(t, "P2102", "the first of two", x, 17, Call{1, 4, 8, 16}, Call{2, 5, 8, 16})
	has(t, "P2102", "the second of two", y, 1)
	adds(t, "P2102", "the first of two", x, 4, 8, 10, 3)
	adds(t, "P2102", "the second of two", y, 4, 8, 10, 3)
	takes(t, "P2102", "the first of two", x, Call{3, 4, 8, 16})
	x.End(4)
	holds(t, "P2102", "the second of two", y, Call{3, 4, 8, 16}, Call{1, 4, 9, 26})
	holds(t, "P2102", "the first of two", x)
}

func TestP2102ManyTurnByTurn(t *testing.T) {
	r := chance(2102)
	const many = 6
	var all [many]Calls
	var twins [many]twin
	for n, s := range drawnRow(&r, 3000, 5, 3, 60, 1) {
		i := r.below(many)
		if s.kind == take {
			s.tag = len(twins[i].all) + 1 - r.below(12)
		}
		if got, want := s.ofCalls(&all[i]), s.ofTwin(&twins[i]); !sameTold(got, want) {
			t.Fatalf("P2102: call %d (%v) of calls %d is %v, not %v", n, s, i, got, want)
		}
		for j := range all {
			has(t, "P2102", "turn by turn", &all[j], twins[j].left())
		}
	}
}

func TestP2102CopiedAsAValue(t *testing.T) {
	// Of a copy the words say nothing, but that no call panics.
	for i, before := range []int{0, 1, 3, 9} {
		var x Calls
		for n := range before {
			x.Add(n%2, n%3, n)
		}
		y := x
		r := chance(21021 + i)
		for _, s := range drawnRow(&r, 500, 3, 3, 30, 1) {
			if r.below(2) == 0 {
				s.ofCalls(&x)
			} else {
				s.ofCalls(&y)
			}
		}
		x.Late(math.MaxInt)
		y.Late(math.MaxInt)
		has(t, "P2102", "a copy", &x, 0)
		has(t, "P2102", "a copy", &y, 0)
	}
}

func TestP2102AnswersMayBeChanged(t *testing.T) {
	c, l := some(t)
	adds(t, "P2102", "what was told is turned", c, 6, 9, 2, 4)
	got := c.Late(14)
	if want := []Call{l[1], {4, 6, 9, 8}}; !slices.Equal(got, want) {
		t.Errorf("P2102: what was told is turned: Late is %v, not %v", got, want)
	}
	// What stands behind an answer is none of the calls', either.
	got = append(got, Call{}, Call{}, Call{})
	got = got[:cap(got)]
	for i := range got {
		got[i] = Call{1 + i%4, 4, 9, -100}
	}
	taken, _ := c.Take(1, 8)
	taken.Tag, taken.Op, taken.Until = 3, 4, 0
	has(t, "P2102", "what was told is turned", c, 1)
	misses(t, "P2102", "what was told is turned", c, 1, 9)
	misses(t, "P2102", "what was told is turned", c, 2, 9)
	lates(t, "P2102", "what was told is turned", c, 19)
	adds(t, "P2102", "what was told is turned", c, 4, 8, 10, 5)
	holds(t, "P2102", "what was told is turned", c, Call{5, 4, 8, 16}, l[2])
}

func TestP2102AnswersStay(t *testing.T) {
	r := chance(21022)
	c := &Calls{}
	var answers, copies [][]Call
	n := 0
	for _, s := range drawnRow(&r, 2000, 9, 2, 100, 1) {
		got := s.ofCalls(c).late
		n += len(got)
		answers, copies = append(answers, got), append(copies, slices.Clone(got))
		for i := range answers {
			if !slices.Equal(answers[i], copies[i]) {
				t.Fatalf("P2102: answer %d was %v, and is %v", i, copies[i], answers[i])
			}
		}
	}
	if n < 100 {
		t.Errorf("P2102: only %d were late", n)
	}
}

func TestP2102AskingTurnsNothing(t *testing.T) {
	r := chance(21023)
	x, y := &Calls{}, &Calls{}
	for i, s := range drawnRow(&r, 1000, 5, 3, 60, 1) {
		// Questions, and calls that find nothing.
		for range i % 4 {
			x.Len()
			x.Take(0, s.peer)
			x.Take(s.tag, 9)
			x.Late(math.MinInt)
			x.End(-1)
		}
		if a, b := s.ofCalls(x), s.ofCalls(y); !sameTold(a, b) {
			t.Fatalf("P2102: call %d (%v) is %v, and %v without questions", i, s, a, b)
		}
	}
}

func TestP2102SameCallsSameAnswers(t *testing.T) {
	r := chance(21024)
	row := drawnRow(&r, 1000, 5, 3, 60, 1)
	var before []told
	for n := range 5 {
		c := &Calls{}
		for i, s := range row {
			got := s.ofCalls(c)
			if n == 0 {
				before = append(before, got)
			} else if !sameTold(got, before[i]) {
				t.Fatalf("P2102: call %d (%v) is %v, and was %v", i, s, got, before[i])
			}
		}
	}
}

func TestP2102KeepsNothingOfWhatIsOver(t *testing.T) {
	c, l := some(t)
	takes(t, "P2102", "kept", c, l[0])
	lates(t, "P2102", "kept", c, 14, l[1])
	c.End(4)
	if n := len(c.open.byTag) + len(c.open.ofOp) + len(c.open.queue); n != 0 {
		t.Errorf("P2102: %d things are kept of calls that are over", n)
	}
	for _, w := range c.open.queue[:cap(c.open.queue)] {
		if w != nil {
			t.Errorf("P2102: %v is over, and kept", w.Call)
		}
	}
}

func TestP2102AtOnce(t *testing.T) {
	r := chance(21025)
	row := drawnRow(&r, 1000, 5, 3, 60, 1)
	all := make([][]told, 6)
	var w sync.WaitGroup
	for i := range all {
		w.Add(1)
		go func() {
			defer w.Done()
			c := &Calls{}
			for _, s := range row {
				all[i] = append(all[i], s.ofCalls(c))
			}
		}()
	}
	w.Wait()
	for i := range all {
		if !slices.EqualFunc(all[i], all[0], sameTold) {
			t.Errorf("P2102: calls %d answer otherwise than calls 0", i)
		}
	}
}
