package bucket

import (
	"math"
	"slices"
	"sync"
	"testing"

	"fountain/api"
)

// with is a contact of this peer, whose key has b in its first byte and its last.
func with(peer int, b byte) api.Contact {
	return api.Contact{Peer: peer, Key: api.Key{0: b, 19: b}}
}

// contacts are those of these peers, each with a key that goes with its number.
func contacts(peers ...int) []api.Contact {
	var all []api.Contact
	for _, peer := range peers {
		all = append(all, with(peer, byte(peer)))
	}
	return all
}

// seen is a bucket that saw these, one behind the other.
func seen(l ...api.Contact) *Bucket {
	b := &Bucket{}
	for _, c := range l {
		b.See(c)
	}
	return b
}

// peers are those of the contacts.
func peers(l []api.Contact) []int {
	var all []int
	for _, c := range l {
		all = append(all, c.Peer)
	}
	return all
}

// has asks what the bucket has, twice.
func has(t *testing.T, promise, when string, b *Bucket, want ...api.Contact) {
	t.Helper()
	for range 2 {
		if got := b.All(); !slices.Equal(got, want) {
			t.Errorf("%s: %s: All is %v, not %v", promise, when, got, want)
		}
	}
}

// takes sees c, which finds its place.
func takes(t *testing.T, promise, when string, b *Bucket, c api.Contact) {
	t.Helper()
	if first, full := b.See(c); full || first != (api.Contact{}) {
		t.Errorf("%s: %s: See of peer %d is %v, %v", promise, when, c.Peer, first, full)
	}
}

// refuses sees c, for which there is no place.
func refuses(t *testing.T, promise, when string, b *Bucket, c, want api.Contact) {
	t.Helper()
	if first, full := b.See(c); !full || first != want {
		t.Errorf("%s: %s: See of peer %d is %v, %v, not %v, true", promise, when, c.Peer, first, full, want)
	}
}

// drops drops the contact of that peer.
func drops(t *testing.T, promise, when string, b *Bucket, peer int, want bool) {
	t.Helper()
	if got := b.Drop(peer); got != want {
		t.Errorf("%s: %s: Drop(%d) is %v", promise, when, peer, got)
	}
}

// odd are peers at the ends of their type, and about 0.
var odd = []int{math.MinInt, math.MinInt + 1, math.MinInt32, -256, -3, -2, -1, 0, 1, 2, 255, 256, math.MaxInt32, math.MaxUint32, 1 << 32, math.MaxInt - 1, math.MaxInt}

// chance makes numbers.
type chance uint32

func (c *chance) below(n int) int {
	*c = *c*1664525 + 1013904223
	return int(*c>>9) % n
}

// twin is a bucket by the chapter's words alone: each contact with the number of the call that saw it last.
type twin struct {
	at    map[int]api.Contact
	when  map[int]int
	calls int
}

func newTwin() *twin {
	return &twin{at: map[int]api.Contact{}, when: map[int]int{}}
}

// all are the contacts by the calls that saw them last.
func (w *twin) all() []api.Contact {
	var all []api.Contact
	for call := range w.calls + 1 {
		for peer, last := range w.when {
			if last == call {
				all = append(all, w.at[peer])
			}
		}
	}
	return all
}

func (w *twin) see(c api.Contact) (api.Contact, bool) {
	w.calls++
	if _, is := w.at[c.Peer]; !is && len(w.at) >= 3 {
		return w.all()[0], true
	}
	w.at[c.Peer] = c
	w.when[c.Peer] = w.calls
	return api.Contact{}, false
}

func (w *twin) drop(peer int) bool {
	_, is := w.at[peer]
	delete(w.at, peer)
	delete(w.when, peer)
	return is
}

// step is one call: a Drop of that peer, or a See of the contact.
type step struct {
	drop bool
	c    api.Contact
}

// told is what a step answers, and what the bucket has behind it.
type told struct {
	first api.Contact
	is    bool
	all   []api.Contact
}

func sameTold(a, b told) bool {
	return a.first == b.first && a.is == b.is && slices.Equal(a.all, b.all)
}

func (s step) ofBucket(b *Bucket) told {
	if s.drop {
		return told{api.Contact{}, b.Drop(s.c.Peer), b.All()}
	}
	first, full := b.See(s.c)
	return told{first, full, b.All()}
}

func (s step) ofTwin(w *twin) told {
	if s.drop {
		return told{api.Contact{}, w.drop(s.c.Peer), w.all()}
	}
	first, full := w.see(s.c)
	return told{first, full, w.all()}
}

func TestP1801Example(t *testing.T) {
	var b Bucket
	has(t, "P1801", "a new one", &b)
	has(t, "P1801", "a new one", &Bucket{})
	has(t, "P1801", "a new one", new(Bucket))
}

func TestP1801ZeroValueIsEmpty(t *testing.T) {
	var b Bucket
	for _, peer := range append([]int{0}, odd...) {
		drops(t, "P1801", "a new one", &b, peer, false)
		has(t, "P1801", "behind a Drop of a new one", &b)
	}
	takes(t, "P1801", "a new one", &b, with(4, 1))
	has(t, "P1801", "the first one", &b, with(4, 1))
	within := struct{ Bucket }{}
	has(t, "P1801", "embedded", &within.Bucket)
	within.See(with(5, 1))
	has(t, "P1801", "embedded", &within.Bucket, with(5, 1))
}

func TestP1801ByHand(t *testing.T) {
	b := &Bucket{}
	for i, x := range []struct {
		step
		told
	}{
		{step{false, with(5, 1)}, told{all: []api.Contact{with(5, 1)}}},
		{step{false, with(6, 2)}, told{all: []api.Contact{with(5, 1), with(6, 2)}}},
		{step{false, with(5, 1)}, told{all: []api.Contact{with(6, 2), with(5, 1)}}},
		{step{false, with(7, 3)}, told{all: []api.Contact{with(6, 2), with(5, 1), with(7, 3)}}},
		{step{false, with(8, 4)}, told{with(6, 2), true, []api.Contact{with(6, 2), with(5, 1), with(7, 3)}}},
		{step{false, with(8, 4)}, told{with(6, 2), true, []api.Contact{with(6, 2), with(5, 1), with(7, 3)}}},
		{step{false, with(6, 9)}, told{all: []api.Contact{with(5, 1), with(7, 3), with(6, 9)}}},
		{step{false, with(8, 4)}, told{with(5, 1), true, []api.Contact{with(5, 1), with(7, 3), with(6, 9)}}},
		{step{true, with(8, 4)}, told{all: []api.Contact{with(5, 1), with(7, 3), with(6, 9)}}},
		{step{true, with(7, 0)}, told{is: true, all: []api.Contact{with(5, 1), with(6, 9)}}},
		{step{true, with(7, 3)}, told{all: []api.Contact{with(5, 1), with(6, 9)}}},
		{step{false, with(8, 4)}, told{all: []api.Contact{with(5, 1), with(6, 9), with(8, 4)}}},
		{step{false, with(7, 5)}, told{with(5, 1), true, []api.Contact{with(5, 1), with(6, 9), with(8, 4)}}},
		{step{true, with(5, 1)}, told{is: true, all: []api.Contact{with(6, 9), with(8, 4)}}},
		{step{false, with(7, 5)}, told{all: []api.Contact{with(6, 9), with(8, 4), with(7, 5)}}},
		{step{true, with(7, 5)}, told{is: true, all: []api.Contact{with(6, 9), with(8, 4)}}},
		{step{true, with(6, 9)}, told{is: true, all: []api.Contact{with(8, 4)}}},
		{step{true, with(8, 4)}, told{is: true}},
		{step{true, with(8, 4)}, told{}},
		{step{false, with(8, 6)}, told{all: []api.Contact{with(8, 6)}}},
	} {
		if got := x.step.ofBucket(b); !sameTold(got, x.told) {
			t.Errorf("P1801: call %d of %v is %v, not %v", i, x.step, got, x.told)
		}
	}
}

func TestP1801SeenAgain(t *testing.T) {
	for _, x := range []struct {
		there []int
		again int
		want  []int
	}{
		{[]int{1}, 1, []int{1}},
		{[]int{1, 2}, 1, []int{2, 1}},
		{[]int{1, 2}, 2, []int{1, 2}},
		{[]int{1, 2, 3}, 1, []int{2, 3, 1}},
		{[]int{1, 2, 3}, 2, []int{1, 3, 2}},
		{[]int{1, 2, 3}, 3, []int{1, 2, 3}},
	} {
		for _, k := range []byte{byte(x.again), 77, 0} {
			b := seen(contacts(x.there...)...)
			takes(t, "P1801", "seen again", b, with(x.again, k))
			want := contacts(x.want...)
			want[len(want)-1] = with(x.again, k)
			has(t, "P1801", "seen again", b, want...)
		}
	}
}

func TestP1801KeyAsHandedInNow(t *testing.T) {
	b := seen(contacts(1, 2, 3)...)
	last := api.Contact{Peer: 2}
	for i := range last.Key {
		last.Key[i] = byte(200 + i)
		takes(t, "P1801", "a key of which one byte more is another", b, last)
		has(t, "P1801", "a key of which one byte more is another", b, with(1, 1), with(3, 3), last)
	}
	takes(t, "P1801", "the first one comes to the end", b, with(1, 9))
	refuses(t, "P1801", "the first one has the key that it had last", seen(last, with(3, 3), with(1, 1)), with(4, 4), last)
	has(t, "P1801", "the first one comes to the end", b, with(3, 3), last, with(1, 9))
}

func TestP1801OneKeyOfManyPeers(t *testing.T) {
	b := seen(with(1, 5), with(2, 5), with(3, 5))
	has(t, "P1801", "one key", b, with(1, 5), with(2, 5), with(3, 5))
	refuses(t, "P1801", "the key is there, the peer is not", b, with(4, 5), with(1, 5))
	has(t, "P1801", "the key is there, the peer is not", b, with(1, 5), with(2, 5), with(3, 5))
	drops(t, "P1801", "one key", b, 2, true)
	has(t, "P1801", "one key", b, with(1, 5), with(3, 5))
}

func TestP1801Full(t *testing.T) {
	for peer, key := range map[int]byte{4: 4, 0: 0, -1: 1, 1 << 32: 2, 1<<32 + 1: 3, math.MaxInt: 0, math.MinInt: 0} {
		b := seen(contacts(1, 2, 3)...)
		for range 3 {
			refuses(t, "P1801", "full", b, with(peer, key), with(1, 1))
			has(t, "P1801", "full", b, contacts(1, 2, 3)...)
		}
		drops(t, "P1801", "what was refused is not there", b, peer, false)
		takes(t, "P1801", "the first one is there still", b, with(1, 8))
		refuses(t, "P1801", "another one is the first", b, with(peer, key), with(2, 2))
		drops(t, "P1801", "the first one is there no more", b, 2, true)
		takes(t, "P1801", "there is room", b, with(peer, key))
		has(t, "P1801", "there is room", b, with(3, 3), with(1, 8), with(peer, key))
	}
}

func TestP1801AsManyAsABucketHas(t *testing.T) {
	b := &Bucket{}
	var want []api.Contact
	for peer := range api.Bucket {
		takes(t, "P1801", "there is room", b, with(peer, 7))
		want = append(want, with(peer, 7))
		has(t, "P1801", "there is room", b, want...)
	}
	for peer := api.Bucket; peer < 20; peer++ {
		refuses(t, "P1801", "there is none", b, with(peer, 7), with(0, 7))
	}
	has(t, "P1801", "there is none", b, want...)
}

func TestP1801Drop(t *testing.T) {
	for _, x := range []struct {
		there []int
		peer  int
		is    bool
		want  []int
	}{
		{nil, 0, false, nil},
		{nil, 1, false, nil},
		{[]int{1}, 1, true, nil},
		{[]int{1}, 0, false, []int{1}},
		{[]int{1}, 2, false, []int{1}},
		{[]int{0}, 0, true, nil},
		{[]int{1, 2}, 1, true, []int{2}},
		{[]int{1, 2}, 2, true, []int{1}},
		{[]int{1, 2}, 0, false, []int{1, 2}},
		{[]int{1, 2}, -1, false, []int{1, 2}},
		{[]int{1, 2, 3}, 1, true, []int{2, 3}},
		{[]int{1, 2, 3}, 2, true, []int{1, 3}},
		{[]int{1, 2, 3}, 3, true, []int{1, 2}},
		{[]int{1, 2, 3}, 0, false, []int{1, 2, 3}},
		{[]int{1, 2, 3}, 4, false, []int{1, 2, 3}},
		{[]int{3, 2, 1}, 3, true, []int{2, 1}},
		{[]int{1, 2, 3}, 1<<32 + 1, false, []int{1, 2, 3}},
	} {
		b := seen(contacts(x.there...)...)
		drops(t, "P1801", "once", b, x.peer, x.is)
		has(t, "P1801", "once", b, contacts(x.want...)...)
		drops(t, "P1801", "again", b, x.peer, false)
		has(t, "P1801", "again", b, contacts(x.want...)...)
	}
}

func TestP1801SeenBehindADrop(t *testing.T) {
	for _, peer := range []int{1, 2, 3} {
		left := slices.DeleteFunc([]int{1, 2, 3}, func(p int) bool { return p == peer })
		for _, c := range []api.Contact{with(peer, byte(peer)), with(peer, 90), with(4, 4), with(0, 0), with(-1, 3)} {
			b := seen(contacts(1, 2, 3)...)
			drops(t, "P1801", "behind a Drop", b, peer, true)
			takes(t, "P1801", "behind a Drop", b, c)
			has(t, "P1801", "behind a Drop", b, append(contacts(left...), c)...)
			refuses(t, "P1801", "full again", b, with(5, 5), contacts(left...)[0])
		}
	}
	b := seen(contacts(1, 2, 3)...)
	for _, peer := range []int{2, 1, 3} {
		drops(t, "P1801", "all of them", b, peer, true)
	}
	for _, c := range contacts(3, 2, 6) {
		takes(t, "P1801", "behind all Drops", b, c)
	}
	has(t, "P1801", "behind all Drops", b, contacts(3, 2, 6)...)
}

func TestP1801EdgesOfThePeers(t *testing.T) {
	for i, a := range odd {
		for _, o := range odd[i+1:] {
			b := seen(with(a, 1), with(o, 2))
			has(t, "P1801", "two odd peers", b, with(a, 1), with(o, 2))
			takes(t, "P1801", "seen again", b, with(a, 3))
			has(t, "P1801", "seen again", b, with(o, 2), with(a, 3))
			takes(t, "P1801", "a third one", b, with(77, 7))
			refuses(t, "P1801", "full", b, with(78, 8), with(o, 2))
			drops(t, "P1801", "two odd peers", b, o, true)
			drops(t, "P1801", "two odd peers", b, o, false)
			has(t, "P1801", "two odd peers", b, with(a, 3), with(77, 7))
		}
	}
	b := seen(with(math.MinInt, 1), with(0, 0), with(math.MaxInt, 2))
	for _, peer := range odd {
		if peer != math.MinInt && peer != 0 && peer != math.MaxInt {
			refuses(t, "P1801", "full of odd peers", b, with(peer, 1), with(math.MinInt, 1))
			drops(t, "P1801", "full of odd peers", b, peer, false)
		}
	}
	has(t, "P1801", "full of odd peers", b, with(math.MinInt, 1), with(0, 0), with(math.MaxInt, 2))
}

func TestP1801ZeroContacts(t *testing.T) {
	b := &Bucket{}
	takes(t, "P1801", "the zero contact", b, api.Contact{})
	has(t, "P1801", "the zero contact", b, api.Contact{})
	takes(t, "P1801", "the zero contact again", b, api.Contact{})
	has(t, "P1801", "the zero contact again", b, api.Contact{})
	takes(t, "P1801", "another", b, with(1, 1))
	takes(t, "P1801", "another", b, with(2, 2))
	refuses(t, "P1801", "the zero contact is the first", b, with(3, 3), api.Contact{})
	drops(t, "P1801", "the zero contact", b, 0, true)
	drops(t, "P1801", "the zero contact", b, 0, false)
	has(t, "P1801", "the zero contact is gone", b, contacts(1, 2)...)
}

// everyRow does every row of n calls, of See and Drop of four peers, with a bucket and its twin.
func everyRow(t *testing.T, row []step, n int) {
	if n == 0 {
		b, w := &Bucket{}, newTwin()
		for i, s := range row {
			if got, want := s.ofBucket(b), s.ofTwin(w); !sameTold(got, want) {
				t.Fatalf("P1801: call %d of %v is %v, not %v", i, row, got, want)
			}
		}
		return
	}
	for peer := range 4 {
		// Each call has a key of its own, so that an answer tells whose it is.
		c := with(peer, byte(10+n))
		everyRow(t, append(row, step{false, c}), n-1)
		everyRow(t, append(row, step{true, c}), n-1)
	}
}

func TestP1801EveryRowOfCalls(t *testing.T) {
	for n := range 6 {
		everyRow(t, nil, n)
	}
}

// drawnRow are n calls of peers below most, of which drops of eight are Drops.
func drawnRow(c *chance, n, most, drops int) []step {
	var row []step
	for range n {
		s := step{c.below(8) < drops, api.Contact{Peer: c.below(most) - most/3}}
		for i := range s.c.Key {
			s.c.Key[i] = byte(c.below(256))
		}
		row = append(row, s)
	}
	return row
}

func TestP1801DrawnRowsOfCalls(t *testing.T) {
	c := chance(1801)
	for n := range 120 {
		b, w := &Bucket{}, newTwin()
		row := drawnRow(&c, 200, 2+n%9, 1+n%4)
		for i, s := range row {
			if got, want := s.ofBucket(b), s.ofTwin(w); !sameTold(got, want) {
				t.Fatalf("P1801: call %d (%v) of row %d is %v, not %v", i, s, n, got, want)
			}
		}
	}
}

func TestP1802NilBucket(t *testing.T) {
	var none *Bucket
	for range 2 {
		for _, peer := range odd {
			takes(t, "P1802", "a nil one", none, with(peer, 3))
			drops(t, "P1802", "a nil one", none, peer, false)
			has(t, "P1802", "a nil one", none)
		}
	}
	takes(t, "P1802", "a nil one", none, api.Contact{})
	b := seen(contacts(1, 2, 3)...)
	takes(t, "P1802", "a nil one beside one that is full", none, with(4, 4))
	has(t, "P1802", "a nil one beside one that is full", b, contacts(1, 2, 3)...)
}

func TestP1802TwoHaveNothingInCommon(t *testing.T) {
	a, b := &Bucket{}, &Bucket{}
	for _, c := range contacts(1, 2, 3) {
		takes(t, "P1802", "the first of two", a, c)
	}
	has(t, "P1802", "the second of two", b)
	drops(t, "P1802", "the second of two", b, 1, false)
	for _, c := range contacts(3, 4, 1) {
		takes(t, "P1802", "the second of two", b, c)
	}
	drops(t, "P1802", "the first of two", a, 3, true)
	takes(t, "P1802", "the first of two", a, with(1, 50))
	has(t, "P1802", "the first of two", a, with(2, 2), with(1, 50))
	has(t, "P1802", "the second of two", b, contacts(3, 4, 1)...)
}

func TestP1802ManyTurnByTurn(t *testing.T) {
	c := chance(1802)
	const many = 7
	var buckets [many]Bucket
	var twins [many]*twin
	for i := range twins {
		twins[i] = newTwin()
	}
	for n, s := range drawnRow(&c, 4000, 6, 3) {
		i := c.below(many)
		if got, want := s.ofBucket(&buckets[i]), s.ofTwin(twins[i]); !sameTold(got, want) {
			t.Fatalf("P1802: call %d (%v) of bucket %d is %v, not %v", n, s, i, got, want)
		}
		for j := range buckets {
			has(t, "P1802", "turn by turn", &buckets[j], twins[j].all()...)
		}
	}
}

func TestP1802CopiedBucketsGoTheirOwnWays(t *testing.T) {
	for n := range 4 {
		there := contacts(1, 2, 3)[:n]
		for _, s := range []step{{false, with(1, 9)}, {false, with(2, 9)}, {false, with(3, 9)}, {false, with(4, 9)}, {true, with(1, 0)}, {true, with(2, 0)}, {true, with(3, 0)}} {
			a := seen(there...)
			b := *a
			s.ofBucket(&b)
			has(t, "P1802", "the one that was copied", a, there...)
			b = *a
			s.ofBucket(a)
			has(t, "P1802", "the copy", &b, there...)
		}
	}
}

func TestP1802HandedInStays(t *testing.T) {
	b := &Bucket{}
	all := contacts(1, 2, 3, 4, 1)
	before := slices.Clone(all)
	for i := range all {
		b.See(all[i])
		b.Drop(all[0].Peer + 1)
		if !slices.Equal(all, before) {
			t.Fatalf("P1802: behind See %d what was handed in is %v, not %v", i, all, before)
		}
	}
}

func TestP1802HandedInIsNotKept(t *testing.T) {
	b := &Bucket{}
	c := with(1, 1)
	b.See(c)
	c.Peer, c.Key = 2, api.Key{5, 6}
	has(t, "P1802", "what was handed in is turned", b, with(1, 1))
	told := b.All()
	b.Drop(1)
	for _, c := range told {
		b.See(c)
	}
	told[0] = with(9, 9)
	has(t, "P1802", "what was told is handed in, then turned", b, with(1, 1))
}

func TestP1802AnswersMayBeChanged(t *testing.T) {
	for n := range 4 {
		there := contacts(1, 2, 3)[:n]
		b := seen(there...)
		got := b.All()
		for i := range got {
			got[i] = with(60+i, 60)
		}
		has(t, "P1802", "what was told is turned", b, there...)
		// What stands behind an answer is none of the bucket's, either.
		more := append(b.All(), with(70, 70), with(71, 71), with(72, 72))
		slices.Reverse(more)
		has(t, "P1802", "what was told has more behind it", b, there...)
		c, d := b.All(), b.All()
		slices.Reverse(c)
		if !slices.Equal(d, there) {
			t.Errorf("P1802: one answer is turned by what is done to another: %v", d)
		}
		for i, s := range contacts(80, 81, 82)[n:] {
			takes(t, "P1802", "what was told has more behind it", b, s)
			has(t, "P1802", "what was told has more behind it", b, append(slices.Clone(there), contacts(80, 81, 82)[n:n+i+1]...)...)
		}
	}
}

func TestP1802AnswersStay(t *testing.T) {
	c := chance(18021)
	b := &Bucket{}
	var answers, copies [][]api.Contact
	for _, s := range drawnRow(&c, 400, 5, 3) {
		all := s.ofBucket(b).all
		answers, copies = append(answers, all), append(copies, slices.Clone(all))
		for i := range answers {
			if !slices.Equal(answers[i], copies[i]) {
				t.Fatalf("P1802: answer %d was %v, and is %v", i, peers(copies[i]), peers(answers[i]))
			}
		}
	}
}

func TestP1802SameCallsSameAnswers(t *testing.T) {
	c := chance(18022)
	row := drawnRow(&c, 300, 6, 3)
	var before []told
	for n := range 5 {
		b := &Bucket{}
		for i, s := range row {
			got := s.ofBucket(b)
			if n == 0 {
				before = append(before, got)
			} else if !sameTold(got, before[i]) {
				t.Fatalf("P1802: call %d (%v) is %v, and was %v", i, s, got, before[i])
			}
			for range n {
				b.All()
			}
		}
	}
}

func TestP1802AtOnce(t *testing.T) {
	c := chance(18023)
	row := drawnRow(&c, 300, 6, 3)
	all := make([][]told, 6)
	var w sync.WaitGroup
	for i := range all {
		w.Add(1)
		go func() {
			defer w.Done()
			var b Bucket
			for _, s := range row {
				all[i] = append(all[i], s.ofBucket(&b))
			}
		}()
	}
	w.Wait()
	for i := range all {
		if !slices.EqualFunc(all[i], all[0], sameTold) {
			t.Errorf("P1802: bucket %d answers otherwise than bucket 0", i)
		}
	}
}
