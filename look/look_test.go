package look

import (
	"fmt"
	"math"
	"slices"
	"strings"
	"sync"
	"testing"

	"fountain/api"
	"fountain/key"
)

// A peer's key is made of the low 32 bits of its number: whole more than another one, it has the same key.
const whole = 1 << 32

// odd are peers at the ends of their type, and about 0.
var odd = []int{math.MinInt, math.MinInt + 1, -whole, math.MinInt32, -256, -3, -2, -1, 0, 1, 2, 255, 256, math.MaxInt32, math.MaxUint32, whole, math.MaxInt - 1, math.MaxInt}

// filled are 0xFF at each place of a key.
func filled() api.Key {
	var k api.Key
	for i := range k {
		k[i] = 0xFF
	}
	return k
}

// someKeys are those of peers, and others.
func someKeys() []api.Key {
	return []api.Key{{}, filled(), {0: 0x80}, {19: 1}, key.Of(), key.Of(0), key.Of(1), key.Of(7), key.Of(-1), key.Of(2, 3), key.Of(100, 7)}
}

// chance makes numbers.
type chance uint32

func (c *chance) below(n int) int {
	*c = *c*1664525 + 1013904223
	return int(*c>>9) % n
}

func (c *chance) key() api.Key {
	var k api.Key
	for i := range k {
		k[i] = byte(c.below(256))
	}
	return k
}

// peers are up to most of them, some below 0, some with the key of another one.
func (c *chance) peers(most, below int) []int {
	var l []int
	for range c.below(most + 1) {
		peer := c.below(below) - 2
		if c.below(5) == 0 {
			peer += whole * c.below(3)
		}
		l = append(l, peer)
	}
	return l
}

// spelt is a key as 160 digits, the highest bit of byte 0 first.
func spelt(k api.Key) string {
	var b strings.Builder
	for _, x := range k {
		fmt.Fprintf(&b, "%08b", x)
	}
	return b.String()
}

// ahead tells whether a is nearer to k than b is: at the first digit in which a and b are unlike it is a that is like k.
func ahead(k, a, b string) bool {
	for i := range a {
		if a[i] != b[i] {
			return a[i] == k[i]
		}
	}
	return false
}

// twin is a look by the chapter's words alone: whom it knows, in the order in which it came to know them.
type twin struct {
	k                  string
	self               int
	known, asked, open []int
}

func newTwin(k api.Key, self int, l ...int) *twin {
	w := &twin{k: spelt(k), self: self}
	w.know(l)
	return w
}

func (w *twin) know(l []int) {
	for _, peer := range l {
		if peer != w.self && peer >= 0 && !slices.Contains(w.known, peer) {
			w.known = append(w.known, peer)
		}
	}
}

func (w *twin) next() (int, bool) {
	best, is := 0, false
	for _, peer := range w.known {
		if slices.Contains(w.asked, peer) {
			continue
		}
		if !is || ahead(w.k, spelt(key.Of(peer)), spelt(key.Of(best))) {
			best, is = peer, true
		}
	}
	if is {
		w.asked, w.open = append(w.asked, best), append(w.open, best)
	}
	return best, is
}

func (w *twin) over(peer int) bool {
	i := slices.Index(w.open, peer)
	if i >= 0 {
		w.open = append(slices.Clone(w.open[:i]), w.open[i+1:]...)
	}
	return i >= 0
}

func (w *twin) done() bool {
	return len(w.open) == 0 && len(w.asked) == len(w.known)
}

// Kinds of steps.
const (
	next  = 'n'
	heard = 'h'
	lost  = 'l'
)

// step is one call.
type step struct {
	kind rune
	peer int
	more []int
}

// told is what a step answers, and what the look tells behind it.
type told struct {
	peer     int
	is, done bool
	asked    []int
}

func sameTold(a, b told) bool {
	return a.peer == b.peer && a.is == b.is && a.done == b.done && slices.Equal(a.asked, b.asked)
}

func (s step) ofLook(x *Look) told {
	var got told
	switch s.kind {
	case next:
		got.peer, got.is = x.Next()
	case heard:
		x.Heard(s.peer, s.more...)
	case lost:
		x.Lost(s.peer)
	}
	got.done, got.asked = x.Done(), x.Asked()
	return got
}

func (s step) ofTwin(w *twin) told {
	var got told
	switch s.kind {
	case next:
		got.peer, got.is = w.next()
	case heard:
		if w.over(s.peer) {
			w.know(s.more)
		}
	case lost:
		w.over(s.peer)
	}
	got.done, got.asked = w.done(), slices.Clone(w.asked)
	return got
}

// has asks what the look tells, twice.
func has(t *testing.T, promise, when string, x *Look, done bool, asked ...int) {
	t.Helper()
	for range 2 {
		if got := x.Done(); got != done {
			t.Errorf("%s: %s: Done is %v", promise, when, got)
		}
		if got := x.Asked(); !slices.Equal(got, asked) {
			t.Errorf("%s: %s: Asked is %v, not %v", promise, when, got, asked)
		}
	}
}

// asks asks the next one.
func asks(t *testing.T, promise, when string, x *Look, want int) {
	t.Helper()
	if got, is := x.Next(); !is || got != want {
		t.Errorf("%s: %s: Next is %d, %v, not %d, true", promise, when, got, is, want)
	}
}

// ends finds that there is none to ask, twice.
func ends(t *testing.T, promise, when string, x *Look) {
	t.Helper()
	for range 2 {
		if got, is := x.Next(); is || got != 0 {
			t.Errorf("%s: %s: Next is %d, %v", promise, when, got, is)
		}
	}
}

// rest asks all that were not asked yet.
func rest(x *Look) []int {
	var l []int
	for {
		peer, is := x.Next()
		if !is {
			return l
		}
		l = append(l, peer)
	}
}

// leaves finds that these are to be asked, in their order, and nobody else.
func leaves(t *testing.T, promise, when string, x *Look, want ...int) {
	t.Helper()
	if got := rest(x); !slices.Equal(got, want) {
		t.Errorf("%s: %s: to be asked are %v, not %v", promise, when, got, want)
	}
}

func TestP2001Example(t *testing.T) {
	for _, k := range someKeys() {
		for _, self := range append([]int{7}, odd...) {
			x := New(k, self)
			if x == nil {
				t.Fatalf("P2001: New(%x, %d) is nil", k, self)
			}
			has(t, "P2001", "knows nobody", x, true)
			ends(t, "P2001", "knows nobody", x)
			has(t, "P2001", "knows nobody, and was asked for one", x, true)
		}
	}
	has(t, "P2001", "nil for nobody", New(api.Key{}, 7, nil...), true)
	has(t, "P2001", "nobody", New(api.Key{}, 7, []int{}...), true)
}

func TestP2001KnowsNobody(t *testing.T) {
	for _, l := range [][]int{{7}, {-1}, {7, 7, -1, -1}, {math.MinInt, 7, -whole, 7 - whole, math.MinInt32}} {
		x := New(key.Of(2, 3), 7, l...)
		has(t, "P2001", "knows nobody", x, true)
		for _, peer := range append(l, odd...) {
			x.Heard(peer, 3, 4)
			has(t, "P2001", "nobody is open, so nothing is heard", x, true)
			x.Lost(peer)
			has(t, "P2001", "nobody is open, so nothing is lost", x, true)
		}
		ends(t, "P2001", "knows nobody", x)
	}
}

func TestP2001ByHand(t *testing.T) {
	// Whom Next asks was worked out beside the program.
	x := New(key.Of(2, 3), 7, 4, 1, 8)
	has(t, "P2001", "a new one", x, false)
	for i, w := range []struct {
		step
		told
	}{
		{step{next, 0, nil}, told{1, true, false, []int{1}}},
		{step{next, 0, nil}, told{4, true, false, []int{1, 4}}},
		{step{heard, 1, []int{9, 4, 7, -1, 9}}, told{0, false, false, []int{1, 4}}},
		{step{next, 0, nil}, told{9, true, false, []int{1, 4, 9}}},
		{step{heard, 1, []int{3}}, told{0, false, false, []int{1, 4, 9}}},
		{step{next, 0, nil}, told{8, true, false, []int{1, 4, 9, 8}}},
		{step{next, 0, nil}, told{0, false, false, []int{1, 4, 9, 8}}},
		{step{lost, 4, nil}, told{0, false, false, []int{1, 4, 9, 8}}},
		{step{heard, 4, []int{3}}, told{0, false, false, []int{1, 4, 9, 8}}},
		{step{next, 0, nil}, told{0, false, false, []int{1, 4, 9, 8}}},
		{step{heard, 8, []int{12, 1}}, told{0, false, false, []int{1, 4, 9, 8}}},
		{step{heard, 12, []int{3}}, told{0, false, false, []int{1, 4, 9, 8}}},
		{step{lost, 12, nil}, told{0, false, false, []int{1, 4, 9, 8}}},
		{step{lost, 3, nil}, told{0, false, false, []int{1, 4, 9, 8}}},
		{step{lost, 9, nil}, told{0, false, false, []int{1, 4, 9, 8}}},
		{step{next, 0, nil}, told{12, true, false, []int{1, 4, 9, 8, 12}}},
		{step{next, 0, nil}, told{0, false, false, []int{1, 4, 9, 8, 12}}},
		{step{heard, 12, []int{12, 10, 0, 0, 11, 10}}, told{0, false, false, []int{1, 4, 9, 8, 12}}},
		{step{next, 0, nil}, told{0, true, false, []int{1, 4, 9, 8, 12, 0}}},
		{step{lost, 0, nil}, told{0, false, false, []int{1, 4, 9, 8, 12, 0}}},
		{step{next, 0, nil}, told{10, true, false, []int{1, 4, 9, 8, 12, 0, 10}}},
		{step{next, 0, nil}, told{11, true, false, []int{1, 4, 9, 8, 12, 0, 10, 11}}},
		{step{heard, 11, []int{7, 1, -5}}, told{0, false, false, []int{1, 4, 9, 8, 12, 0, 10, 11}}},
		{step{lost, 10, nil}, told{0, false, true, []int{1, 4, 9, 8, 12, 0, 10, 11}}},
		{step{heard, 11, []int{3}}, told{0, false, true, []int{1, 4, 9, 8, 12, 0, 10, 11}}},
		{step{heard, 10, []int{3}}, told{0, false, true, []int{1, 4, 9, 8, 12, 0, 10, 11}}},
		{step{next, 0, nil}, told{0, false, true, []int{1, 4, 9, 8, 12, 0, 10, 11}}},
	} {
		if got := w.step.ofLook(x); !sameTold(got, w.told) {
			t.Errorf("P2001: call %d of %v is %v, not %v", i, w.step, got, w.told)
		}
	}
}

func TestP2001NextByHand(t *testing.T) {
	l := []int{12, 5, 0, 9, 3, 1, 11, 4, 10, 2, 8, 6}
	for _, w := range []struct {
		name string
		k    api.Key
		want []int
	}{
		{"one that is known", key.Of(3), []int{3, 6, 0, 9, 2, 4, 5, 10, 1, 8, 11, 12}},
		{"its own", key.Of(7), []int{5, 4, 2, 10, 1, 0, 6, 3, 9, 11, 12, 8}},
		{"an object's", key.Of(2, 3), []int{9, 3, 6, 0, 1, 10, 2, 4, 5, 8, 12, 11}},
		{"zero", api.Key{}, []int{0, 3, 6, 9, 5, 2, 4, 10, 1, 8, 11, 12}},
		{"filled", filled(), []int{12, 11, 8, 1, 10, 4, 2, 5, 9, 6, 3, 0}},
		{"the highest bit", api.Key{0: 0x80}, []int{8, 11, 12, 0, 3, 6, 9, 5, 2, 4, 10, 1}},
		{"another one's", key.Of(-1), []int{8, 12, 11, 9, 0, 6, 3, 10, 1, 5, 4, 2}},
		{"of two", key.Of(100, 7), []int{5, 4, 2, 10, 1, 0, 6, 3, 9, 11, 12, 8}},
	} {
		all := slices.Clone(l)
		for range all {
			x := New(w.k, 7, all...)
			leaves(t, "P2001", w.name, x, w.want...)
			has(t, "P2001", w.name, x, false, w.want...)
			// In whatever order they are known, they are asked in one and the same.
			all = append(all[1:], all[0])
		}
		slices.Reverse(all)
		leaves(t, "P2001", w.name, New(w.k, 7, all...), w.want...)
	}
}

func TestP2001NextOfOddPeers(t *testing.T) {
	// Worked out beside the program; 0 and whole have one key.
	x := New(key.Of(2, 3), 7, odd...)
	leaves(t, "P2001", "odd", x, 256, 255, 0, whole, 1, 2, math.MaxUint32, math.MaxInt, math.MaxInt-1, math.MaxInt32)
	for _, self := range odd {
		x, w := New(key.Of(2, 3), self, odd...), newTwin(key.Of(2, 3), self, odd...)
		for range odd {
			s := step{next, 0, nil}
			if got, want := s.ofLook(x), s.ofTwin(w); !sameTold(got, want) {
				t.Errorf("P2001: odd, of %d: %v, not %v", self, got, want)
			}
		}
	}
}

func TestP2001Alone(t *testing.T) {
	for _, k := range someKeys() {
		for _, peer := range odd {
			x := New(k, 7, peer)
			if peer < 0 {
				has(t, "P2001", "below 0", x, true)
				ends(t, "P2001", "below 0", x)
				continue
			}
			has(t, "P2001", "not asked yet", x, false)
			asks(t, "P2001", "alone", x, peer)
			has(t, "P2001", "open", x, false, peer)
			ends(t, "P2001", "alone", x)
			has(t, "P2001", "open still", x, false, peer)
			x.Heard(peer)
			has(t, "P2001", "heard", x, true, peer)
			ends(t, "P2001", "heard", x)
			x = New(k, 7, peer)
			asks(t, "P2001", "alone", x, peer)
			x.Lost(peer)
			has(t, "P2001", "lost", x, true, peer)
			ends(t, "P2001", "lost", x)
			has(t, "P2001", "its own", New(k, peer, peer), true)
			has(t, "P2001", "its own, with the same key", New(k, peer, peer^whole), false)
		}
	}
}

func TestP2001NewKnowsEachOnce(t *testing.T) {
	k := key.Of(2, 3)
	for _, l := range [][]int{{3, 3}, {3, 3, 3}, {3, -1, 3}, {3, 7, 3}, {7, 3, 7, 3, 7}} {
		x := New(k, 7, l...)
		asks(t, "P2001", "twice", x, 3)
		ends(t, "P2001", "twice", x)
		x.Heard(3)
		has(t, "P2001", "twice", x, true, 3)
	}
	x := New(k, 7, 4, 4, 9, 7, 9, 1, -4, 1, 4)
	leaves(t, "P2001", "twice", x, 9, 1, 4)
	has(t, "P2001", "twice", x, false, 9, 1, 4)
	leaves(t, "P2001", "of a look of a peer below 0", New(k, -4, 4, 4, 9, 7, -4, 9), 9, 4, 7)
}

func TestP2001OfOneKeyTheFirstKnown(t *testing.T) {
	l := []int{4, 4 + whole, 4 + 2*whole}
	for _, k := range someKeys() {
		for i := range 3 {
			for j := range 3 {
				if i == j {
					continue
				}
				a, b, c := l[i], l[j], l[3-i-j]
				leaves(t, "P2001", "one key", New(k, 7, a, b, c), a, b, c)
				leaves(t, "P2001", "one key, again and again", New(k, 7, a, b, a, b, c, a), a, b, c)
				leaves(t, "P2001", "one key, its own too", New(k, b, a, b, c), a, c)
				leaves(t, "P2001", "one key, its own too", New(k, 4+3*whole, 4+3*whole, a, b, c), a, b, c)
				x := New(k, 7, a)
				asks(t, "P2001", "one key", x, a)
				x.Heard(a, b, a, c)
				leaves(t, "P2001", "one key, heard", x, b, c)
			}
		}
	}
}

func TestP2001OfOneKeyTheFirstKnownAmongMany(t *testing.T) {
	k := key.Of(2, 3)
	// The lesser ones are known later, and from another peer.
	x := New(k, 7, 9, 4+3*whole, 9+whole, 4+2*whole, 3)
	asks(t, "P2001", "one key", x, 9)
	asks(t, "P2001", "one key", x, 9+whole)
	x.Heard(9+whole, 4, 3+whole, 4+whole)
	x.Heard(9, 3+2*whole, 9+2*whole)
	leaves(t, "P2001", "one key", x, 9+2*whole, 3, 3+whole, 3+2*whole, 4+3*whole, 4+2*whole, 4, 4+whole)
	var l []int
	for i := range 40 {
		l = append(l, 5+whole*(i*17%40))
	}
	leaves(t, "P2001", "many of one key", New(k, 7, l...), l...)
	x = New(k, 7, append([]int{9, 3}, l[:20]...)...)
	asks(t, "P2001", "many of one key", x, 9)
	x.Heard(9, l...)
	leaves(t, "P2001", "many of one key, some heard", x, append([]int{3}, l...)...)
}

func TestP2001NumbersAreWhole(t *testing.T) {
	x := New(key.Of(4), 4, 4+whole, 4+2*whole)
	asks(t, "P2001", "whole", x, 4+whole)
	for _, peer := range []int{4, 4 + 2*whole, 4 + 3*whole, 4 - whole} {
		x.Heard(peer, 9)
		x.Lost(peer)
		has(t, "P2001", "another one with the same key", x, false, 4+whole)
	}
	asks(t, "P2001", "whole", x, 4+2*whole)
	ends(t, "P2001", "whole", x)
	x.Lost(4 + whole)
	x.Heard(4+2*whole, 4, 4+whole)
	has(t, "P2001", "whole", x, true, 4+whole, 4+2*whole)
}

func TestP2001Heard(t *testing.T) {
	k := key.Of(2, 3)
	for _, w := range []struct {
		name       string
		more, want []int
	}{
		{"nobody", nil, []int{8}},
		{"nobody, in a list", []int{}, []int{8}},
		{"one", []int{3}, []int{3, 8}},
		{"one that is farther", []int{11}, []int{8, 11}},
		{"itself", []int{7}, []int{8}},
		{"below 0", []int{-1, math.MinInt, -whole, 3 - whole}, []int{8}},
		{"one twice", []int{3, 3}, []int{3, 8}},
		{"one twice, others between", []int{3, 11, 3, 11}, []int{3, 8, 11}},
		{"itself, and one", []int{7, 3}, []int{3, 8}},
		{"one, and itself", []int{3, 7}, []int{3, 8}},
		{"below 0, and one", []int{-1, 3}, []int{3, 8}},
		{"one, and below 0", []int{3, -1}, []int{3, 8}},
		{"the one that told it", []int{9}, []int{8}},
		{"one that is open", []int{1}, []int{8}},
		{"one that was not asked yet", []int{8}, []int{8}},
		{"one that is lost", []int{2}, []int{8}},
		{"one that was heard", []int{10}, []int{8}},
		{"all of these", []int{9, 1, 8, 2, 10, 7, -1, 3}, []int{3, 8}},
		{"many", []int{12, 11, 6, 5, 4, 3, 0}, []int{3, 6, 4, 5, 8, 12, 11}},
		{"the greatest", []int{math.MaxInt, math.MaxInt - 1}, []int{math.MaxInt, 8, math.MaxInt - 1}},
	} {
		x := New(k, 7, 2, 10)
		asks(t, "P2001", w.name, x, 10)
		asks(t, "P2001", w.name, x, 2)
		x.Lost(2)
		x.Heard(10, 9, 1)
		asks(t, "P2001", w.name, x, 9)
		asks(t, "P2001", w.name, x, 1)
		x.Heard(1, 0)
		asks(t, "P2001", w.name, x, 0)
		x.Heard(0, 8, 1)
		x.Heard(9, w.more...)
		has(t, "P2001", w.name, x, false, 10, 2, 9, 1, 0)
		leaves(t, "P2001", w.name, x, w.want...)
		has(t, "P2001", w.name, x, false, append([]int{10, 2, 9, 1, 0}, w.want...)...)
		for _, peer := range w.want {
			has(t, "P2001", w.name+", not all over", x, false, append([]int{10, 2, 9, 1, 0}, w.want...)...)
			x.Lost(peer)
		}
		has(t, "P2001", w.name+", all over", x, true, append([]int{10, 2, 9, 1, 0}, w.want...)...)
	}
}

func TestP2001HeardOfOneThatIsNotOpen(t *testing.T) {
	for _, w := range []struct {
		name string
		peer int
	}{
		{"not known", 12}, {"not asked yet", 11}, {"heard already", 9}, {"lost", 3}, {"its own", 7}, {"below 0", -1}, {"with the key of one that is open", 6 + whole},
		{"zero, that is not known", 0}, {"the least", math.MinInt}, {"the greatest", math.MaxInt},
	} {
		for _, more := range [][]int{nil, {5}, {w.peer}, {w.peer, 5}, {5, 10, 5}, {11}} {
			x := New(key.Of(2, 3), 7, 9, 3, 6, 11)
			for _, peer := range []int{9, 3, 6} {
				asks(t, "P2001", w.name, x, peer)
			}
			x.Heard(9)
			x.Lost(3)
			for range 2 {
				x.Heard(w.peer, more...)
				has(t, "P2001", w.name, x, false, 9, 3, 6)
			}
			leaves(t, "P2001", w.name, x, 11)
			x.Heard(w.peer+whole, more...)
			x.Lost(6)
			has(t, "P2001", w.name, x, false, 9, 3, 6, 11)
			x.Lost(11)
			has(t, "P2001", w.name, x, true, 9, 3, 6, 11)
			ends(t, "P2001", w.name, x)
		}
	}
}

func TestP2001HeardOnceOnly(t *testing.T) {
	x := New(key.Of(2, 3), 7, 9)
	asks(t, "P2001", "once", x, 9)
	x.Heard(9, 8)
	x.Heard(9, 5)
	x.Lost(9)
	x.Heard(9, 5)
	leaves(t, "P2001", "once", x, 8)
	x = New(key.Of(2, 3), 7, 9)
	asks(t, "P2001", "lost first", x, 9)
	x.Lost(9)
	x.Lost(9)
	x.Heard(9, 5)
	has(t, "P2001", "lost first", x, true, 9)
	ends(t, "P2001", "lost first", x)
}

func TestP2001Lost(t *testing.T) {
	k := key.Of(2, 3)
	x := New(k, 7, 9, 3, 6)
	for _, peer := range []int{9, 3, 6, 7, -1, 12, math.MaxInt, math.MinInt} {
		// Those that are not open are not turned by it.
		x.Lost(peer)
		has(t, "P2001", "lost before it was asked", x, false)
	}
	for i, peer := range []int{9, 3, 6} {
		asks(t, "P2001", "lost", x, peer)
		asked := []int{9, 3, 6}[:i+1]
		for _, other := range []int{7, -1, 12, peer + whole, 9, 3} {
			if other != peer {
				x.Lost(other)
			}
			has(t, "P2001", "others are lost", x, false, asked...)
		}
		for range 3 {
			x.Lost(peer)
			has(t, "P2001", "lost", x, i == 2, asked...)
		}
	}
	ends(t, "P2001", "all are lost", x)
}

func TestP2001Done(t *testing.T) {
	k := key.Of(2, 3)
	over := []func(x *Look, peer int){func(x *Look, peer int) { x.Heard(peer) }, func(x *Look, peer int) { x.Lost(peer) }}
	for _, a := range over {
		for _, b := range over {
			x := New(k, 7, 9, 3)
			has(t, "P2001", "none was asked", x, false)
			asks(t, "P2001", "done", x, 9)
			has(t, "P2001", "one is open, one was not asked", x, false, 9)
			a(x, 9)
			has(t, "P2001", "none is open, one was not asked", x, false, 9)
			asks(t, "P2001", "done", x, 3)
			has(t, "P2001", "one is open, all were asked", x, false, 9, 3)
			b(x, 3)
			has(t, "P2001", "neither", x, true, 9, 3)
			x = New(k, 7, 9, 3)
			leaves(t, "P2001", "done", x, 9, 3)
			has(t, "P2001", "two are open", x, false, 9, 3)
			a(x, 9)
			has(t, "P2001", "one is open", x, false, 9, 3)
			b(x, 3)
			has(t, "P2001", "neither", x, true, 9, 3)
			x = New(k, 7, 9)
			asks(t, "P2001", "done", x, 9)
			x.Heard(9, 3)
			has(t, "P2001", "heard of one more", x, false, 9)
			asks(t, "P2001", "done", x, 3)
			a(x, 3)
			has(t, "P2001", "done at last", x, true, 9, 3)
		}
	}
}

func TestP2001ManyPeers(t *testing.T) {
	const many = 100000
	c := chance(200101)
	var l []int
	for i := range many {
		l = append(l, i*7919%many)
	}
	k := c.key()
	x := New(k, 7, l[:many/2]...)
	first, _ := x.Next()
	x.Heard(first, l...)
	asked := append([]int{first}, rest(x)...)
	if len(asked) != many-1 {
		t.Fatalf("P2001: of many: %d were asked", len(asked))
	}
	for i := 2; i < len(asked); i++ {
		if key.Less(key.Distance(key.Of(asked[i]), k), key.Distance(key.Of(asked[i-1]), k)) {
			t.Fatalf("P2001: of many: %d was asked ahead of %d", asked[i-1], asked[i])
		}
	}
	for _, peer := range asked {
		x.Lost(peer)
	}
	has(t, "P2001", "of many", x, true, asked...)
}

// everyRow does every row of n of these steps, with a look and its twin.
func everyRow(t *testing.T, self int, known []int, steps, row []step, n int) {
	if n == 0 {
		x, w := New(key.Of(2, 3), self, known...), newTwin(key.Of(2, 3), self, known...)
		for i, s := range row {
			if got, want := s.ofLook(x), s.ofTwin(w); !sameTold(got, want) {
				t.Fatalf("P2001: of %d that knows %v: call %d of %v is %v, not %v", self, known, i, row, got, want)
			}
		}
		return
	}
	for _, s := range steps {
		everyRow(t, self, known, steps, append(row, s), n-1)
	}
}

func TestP2001EveryRowOfCalls(t *testing.T) {
	steps := []step{{next, 0, nil}, {heard, 3, []int{6, 9, 7}}, {heard, 9, []int{3, 3 + whole, -1, 9}}, {heard, 6, nil}, {lost, 9, nil}, {lost, 3, nil}}
	for n := range 7 {
		everyRow(t, 7, []int{3}, steps, nil, n)
	}
	for _, known := range [][]int{nil, {9}, {9, 3}, {3, 9, 6, 3}, {7, 6, -1}, {3 + whole, 3}} {
		for n := range 6 {
			everyRow(t, 7, known, steps, nil, n)
		}
	}
	for n := range 5 {
		everyRow(t, 9, []int{3, 6, 9}, steps, nil, n)
	}
}

// drawnRow are n steps with peers below most; the more the third number, the fewer of them are Nexts.
func drawnRow(c *chance, n, most, few int) []step {
	var row []step
	for range n {
		s := step{next, 0, nil}
		if c.below(1+few) > 0 {
			s = step{heard, c.below(most) - 2, c.peers(4, most)}
			if c.below(4) == 0 {
				s.peer += whole
			}
			if c.below(2) == 0 {
				s = step{lost, s.peer, nil}
			}
		}
		row = append(row, s)
	}
	return row
}

func TestP2001DrawnRowsOfCalls(t *testing.T) {
	c := chance(200119)
	for n := range 150 {
		k, self, most := c.key(), c.below(12)-3, 6+2*(n%20)
		if n%3 == 0 {
			k = key.Of(c.below(most))
		}
		known := c.peers(n%8, most)
		x, w := New(k, self, known...), newTwin(k, self, known...)
		for i, s := range drawnRow(&c, 150, most, 1+n%4) {
			if n%2 == 0 && s.kind != next && len(w.open) > 0 {
				// One that is open is met seldom by chance.
				s.peer = w.open[c.below(len(w.open))]
			}
			if got, want := s.ofLook(x), s.ofTwin(w); !sameTold(got, want) {
				t.Fatalf("P2001: of %d: call %d (%v) of row %d is %v, not %v", self, i, s, n, got, want)
			}
		}
	}
}

func TestP2001NearestOfManyAsTheyCome(t *testing.T) {
	c := chance(200120)
	for range 30 {
		k := c.key()
		known := c.peers(60, 200)
		x, w := New(k, 7, known...), newTwin(k, 7, known...)
		for range 150 {
			s := step{next, 0, nil}
			got, want := s.ofLook(x), s.ofTwin(w)
			if !sameTold(got, want) {
				t.Fatalf("P2001: Next is %v, not %v", got, want)
			}
			if len(w.open) == 0 {
				break
			}
			s = step{heard, w.open[c.below(len(w.open))], c.peers(3, 300)}
			if got, want := s.ofLook(x), s.ofTwin(w); !sameTold(got, want) {
				t.Fatalf("P2001: behind Heard %v is told, not %v", got, want)
			}
		}
	}
}

func TestP2002NilLook(t *testing.T) {
	var none *Look
	x := New(key.Of(2, 3), 7, 3, 9)
	asks(t, "P2002", "beside a nil one", x, 9)
	for range 2 {
		has(t, "P2002", "a nil one", none, true)
		ends(t, "P2002", "a nil one", none)
		for _, peer := range append([]int{7, 3, 9}, odd...) {
			none.Heard(peer)
			none.Heard(peer, 3, 9, peer)
			none.Heard(peer, odd...)
			has(t, "P2002", "a nil one, behind Heard", none, true)
			none.Lost(peer)
			has(t, "P2002", "a nil one, behind Lost", none, true)
			ends(t, "P2002", "a nil one, behind Lost", none)
		}
	}
	has(t, "P2002", "beside a nil one", x, false, 9)
	leaves(t, "P2002", "beside a nil one", x, 3)
}

func TestP2002OneThatNewDidNotMake(t *testing.T) {
	var x Look
	for range 2 {
		for _, peer := range odd {
			x.Heard(peer, odd...)
			x.Lost(peer)
			has(t, "P2002", "one that New did not make", &x, true)
			ends(t, "P2002", "one that New did not make", &x)
		}
	}
}

func TestP2002TwoHaveNothingInCommon(t *testing.T) {
	for _, self := range []int{7, 22, -3} {
		l := []int{3, 9, 6}
		x, y := New(key.Of(2, 3), 7, l...), New(key.Of(2, 3), self, l...)
		asks(t, "P2002", "the first of two", x, 9)
		has(t, "P2002", "the second of two", y, false)
		y.Heard(9, 1)
		y.Lost(9)
		has(t, "P2002", "the first of two", x, false, 9)
		asks(t, "P2002", "the second of two", y, 9)
		x.Heard(9, 1)
		has(t, "P2002", "the second of two", y, false, 9)
		y.Heard(9, 4)
		leaves(t, "P2002", "the first of two", x, 3, 6, 1)
		leaves(t, "P2002", "the second of two", y, 3, 6, 4)
		for _, peer := range []int{3, 6, 1} {
			x.Lost(peer)
		}
		has(t, "P2002", "the first of two", x, true, 9, 3, 6, 1)
		has(t, "P2002", "the second of two", y, false, 9, 3, 6, 4)
	}
}

func TestP2002ManyTurnByTurn(t *testing.T) {
	c := chance(2002)
	const many = 6
	var looks [many]*Look
	var twins [many]*twin
	for i := range many {
		known := c.peers(5, 30)
		looks[i], twins[i] = New(key.Of(i/2), i/2, known...), newTwin(key.Of(i/2), i/2, known...)
	}
	for n, s := range drawnRow(&c, 1500, 30, 2) {
		i := c.below(many)
		if got, want := s.ofLook(looks[i]), s.ofTwin(twins[i]); !sameTold(got, want) {
			t.Fatalf("P2002: call %d (%v) of look %d is %v, not %v", n, s, i, got, want)
		}
		for j := range looks {
			has(t, "P2002", "turn by turn", looks[j], twins[j].done(), twins[j].asked...)
		}
	}
}

// within is a list with spare room behind it, all of which is 99.
func within(l []int) []int {
	room := append(slices.Clone(l), 99, 99, 99, 99, 99, 99)
	return room[:len(l)]
}

func TestP2002HandedInIsNotChanged(t *testing.T) {
	known, more := []int{9, 3, 3, 7, -1, 6, 12}, []int{12, 7, 1, 0, 1, -3, 5}
	a, b := within(known), within(more)
	x := New(key.Of(2, 3), 7, a...)
	asks(t, "P2002", "handed in", x, 9)
	x.Heard(9, b...)
	leaves(t, "P2002", "handed in", x, 3, 6, 0, 1, 5, 12)
	x.Lost(3)
	for _, l := range []struct{ got, want []int }{{a, known}, {b, more}} {
		got := l.got[:cap(l.got)][:len(l.want)+6]
		if want := append(slices.Clone(l.want), 99, 99, 99, 99, 99, 99); !slices.Equal(got, want) {
			t.Errorf("P2002: handed in is %v, and was %v", got, want)
		}
	}
}

func TestP2002HandedInIsNotKept(t *testing.T) {
	spoil := func(l []int) {
		l = l[:cap(l)]
		for i := range l {
			l[i] = 50 + i
		}
	}
	a, b := within([]int{9, 3, 12}), within([]int{1, 5})
	x := New(key.Of(2, 3), 7, a...)
	spoil(a)
	asks(t, "P2002", "handed in is turned", x, 9)
	x.Heard(9, b...)
	spoil(b)
	leaves(t, "P2002", "handed in is turned", x, 3, 1, 5, 12)
	has(t, "P2002", "handed in is turned", x, false, 9, 3, 1, 5, 12)
	// One list may be handed in again, and to others.
	l := []int{3, 9}
	y, z := New(key.Of(2, 3), 7, l...), New(key.Of(3), 7, l...)
	leaves(t, "P2002", "one list for two", y, 9, 3)
	leaves(t, "P2002", "one list for two", z, 3, 9)
	l = x.Asked()
	leaves(t, "P2002", "what another one asked", New(key.Of(2, 3), 7, l...), 9, 3, 1, 5, 12)
	spoil(l)
	has(t, "P2002", "what it asked was handed in", x, false, 9, 3, 1, 5, 12)
}

func TestP2002AnswersMayBeChanged(t *testing.T) {
	x := New(key.Of(2, 3), 7, 3, 9, 6)
	for n, want := range [][]int{{9}, {9, 3}, {9, 3, 6}} {
		asks(t, "P2002", "what was told is turned", x, want[n])
		got, other := x.Asked(), x.Asked()
		// What stands behind an answer is none of the look's, either.
		got = append(got, 70, 71, 72)
		got = got[:cap(got)]
		for i := range got {
			got[i] = 60 + i
		}
		if !slices.Equal(other, want) {
			t.Errorf("P2002: one answer is turned by what is done to another: %v", other)
		}
		has(t, "P2002", "what was told is turned", x, false, want...)
		x.Lost(60)
		x.Heard(61, 62)
	}
	ends(t, "P2002", "what was told is turned", x)
	for _, peer := range []int{9, 3, 6} {
		x.Lost(peer)
	}
	has(t, "P2002", "what was told is turned", x, true, 9, 3, 6)
}

func TestP2002AnswersStay(t *testing.T) {
	c := chance(20021)
	x := New(key.Of(2, 3), 7, c.peers(5, 60)...)
	var answers, copies [][]int
	for _, s := range drawnRow(&c, 400, 60, 1) {
		if s.kind == heard && len(x.Asked()) > 0 {
			s.peer = x.Asked()[len(x.Asked())-1]
		}
		got := s.ofLook(x).asked
		answers, copies = append(answers, got), append(copies, slices.Clone(got))
		for i := range answers {
			if !slices.Equal(answers[i], copies[i]) {
				t.Fatalf("P2002: answer %d was %v, and is %v", i, copies[i], answers[i])
			}
		}
	}
	if len(x.Asked()) < 10 {
		t.Errorf("P2002: only %v were asked", x.Asked())
	}
}

func TestP2002AskingTurnsNothing(t *testing.T) {
	c := chance(20022)
	row := drawnRow(&c, 300, 20, 2)
	x, y := New(key.Of(2, 3), 7, 3, 9, 6), New(key.Of(2, 3), 7, 3, 9, 6)
	for i, s := range row {
		for range i % 4 {
			x.Done()
			x.Asked()
		}
		switch s.kind {
		case next:
			a, isA := x.Next()
			b, isB := y.Next()
			if a != b || isA != isB {
				t.Fatalf("P2002: call %d is %d, %v, and %d, %v without questions", i, a, isA, b, isB)
			}
		case heard:
			x.Heard(s.peer, s.more...)
			y.Heard(s.peer, s.more...)
		case lost:
			x.Lost(s.peer)
			y.Lost(s.peer)
		}
	}
	has(t, "P2002", "without questions", y, x.Done(), x.Asked()...)
}

func TestP2002SameCallsSameAnswers(t *testing.T) {
	c := chance(20023)
	known, row := c.peers(9, 40), drawnRow(&c, 300, 40, 2)
	var before []told
	for n := range 5 {
		x := New(key.Of(5), 7, known...)
		for i, s := range row {
			got := s.ofLook(x)
			if n == 0 {
				before = append(before, got)
			} else if !sameTold(got, before[i]) {
				t.Fatalf("P2002: call %d (%v) is %v, and was %v", i, s, got, before[i])
			}
		}
	}
}

func TestP2002AtOnce(t *testing.T) {
	c := chance(20024)
	known, row := c.peers(9, 40), drawnRow(&c, 300, 40, 2)
	all := make([][]told, 6)
	var w sync.WaitGroup
	for i := range all {
		w.Add(1)
		go func() {
			defer w.Done()
			x := New(key.Of(5), 7, known...)
			for _, s := range row {
				all[i] = append(all[i], s.ofLook(x))
			}
		}()
	}
	w.Wait()
	for i := range all {
		if !slices.EqualFunc(all[i], all[0], sameTold) {
			t.Errorf("P2002: look %d answers otherwise than look 0", i)
		}
	}
}
