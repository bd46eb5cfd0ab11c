package table

import (
	"fmt"
	"math"
	"slices"
	"strings"
	"sync"
	"testing"

	"fountain/api"
	"fountain/key"
)

// A peer's key is made of the low 32 bits of its number: whole more than another one, it has the same key.
const whole = 1 << 32

// shelves are peers by how many bits their keys have in common with that of peer 7, worked out beside the program: 0, 1, and so on to 22 bits, and at last all of them.
var shelves = [][]int{
	{8, 11, 12, 13},
	{0, 3, 6, 9},
	{1, 10, 15, 17},
	{2, 4, 22, 27},
	{5, 45, 67, 74},
	{48, 184, 343, 357},
	{76, 160, 523, 645},
	{795, 1351, 1457, 1459},
	{670, 824, 1033, 1255},
	{366, 923, 3703, 5439},
	{2698, 6481, 9278, 11649},
	{9930, 15012, 18128, 24149},
	{5543, 29442, 41816, 43669},
	{18420, 37629, 64787, 76856},
	{1875, 31220, 31555, 73512},
	{32920, 252800, 332093, 419573},
	{23593, 54600, 208175, 255126},
	{264718, 298046, 767902, 860217},
	{1562744, 1852832, 3211099, 3755715},
	{1391949, 2087026, 2933392, 4972106},
	{2409806, 2909050, 6435622, 16939815},
	{6073022, 10136398, 11579561, 15318570},
	{4416902, 15454379, 16016070, 28606270},
	{7 + whole, 7 + 2*whole, 7 + 3*whole, 7 + 4*whole},
}

// odd are peers at the ends of their type, and about 0.
var odd = []int{math.MinInt, math.MinInt + 1, -whole, math.MinInt32, -256, -3, -2, -1, 0, 1, 2, 255, 256, math.MaxInt32, math.MaxUint32, whole, math.MaxInt - 1, math.MaxInt}

// filled are 0xFF at each place of a key.
func filled() api.Key {
	var k api.Key
	for i := range k {
		k[i] = 0xFF
	}
	return k
}

// someKeys are those of peers that may be known, and others.
func someKeys() []api.Key {
	return []api.Key{{}, filled(), {0: 0x80}, {19: 1}, key.Of(0), key.Of(1), key.Of(7), key.Of(-1), key.Of(2, 3), key.Of(100, 7)}
}

// seen is a table of a peer that saw these, one behind the other.
func seen(own int, l ...int) *Table {
	x := New(own)
	for _, peer := range l {
		x.See(peer)
	}
	return x
}

// has asks what the table has, twice.
func has(t *testing.T, promise, when string, x *Table, want ...int) {
	t.Helper()
	want = slices.Clone(want)
	slices.Sort(want)
	for range 2 {
		if got := x.All(); !slices.Equal(got, want) {
			t.Errorf("%s: %s: All is %v, not %v", promise, when, got, want)
		}
		if got, want := x.Near(key.Of(3), 1000), nearest(key.Of(3), want); !slices.Equal(got, want) {
			t.Errorf("%s: %s: Near is %v, not %v", promise, when, got, want)
		}
	}
}

// quiet sees a peer, and nobody should be asked.
func quiet(t *testing.T, promise, when string, x *Table, peer int) {
	t.Helper()
	if first, full := x.See(peer); full || first != 0 {
		t.Errorf("%s: %s: See(%d) is %d, %v", promise, when, peer, first, full)
	}
}

// refuses sees a peer for which there is no room.
func refuses(t *testing.T, promise, when string, x *Table, peer, want int) {
	t.Helper()
	if first, full := x.See(peer); !full || first != want {
		t.Errorf("%s: %s: See(%d) is %d, %v, not %d, true", promise, when, peer, first, full, want)
	}
}

// drops drops a peer.
func drops(t *testing.T, promise, when string, x *Table, peer int, want bool) {
	t.Helper()
	if got := x.Drop(peer); got != want {
		t.Errorf("%s: %s: Drop(%d) is %v", promise, when, peer, got)
	}
}

// chance makes numbers.
type chance uint32

func (c *chance) below(n int) int {
	*c = *c*1664525 + 1013904223
	return int(*c>>9) % n
}

func (c *chance) key() api.Key {
	var k api.Key
	for i := range k {
		k[i] = byte(c.below(256))
	}
	return k
}

// spelt is a key as 160 digits, the highest bit of byte 0 first.
func spelt(k api.Key) string {
	var b strings.Builder
	for _, x := range k {
		fmt.Fprintf(&b, "%08b", x)
	}
	return b.String()
}

// known are the spelt keys of peers that were asked for.
var (
	knownLock sync.Mutex
	known     = map[int]string{}
)

func speltOf(peer int) string {
	knownLock.Lock()
	defer knownLock.Unlock()
	if known[peer] == "" {
		known[peer] = spelt(key.Of(peer))
	}
	return known[peer]
}

// common is how many digits two have in common ahead of the first one in which they are unlike.
func common(a, b string) int {
	n := 0
	for n < len(a) && a[n] == b[n] {
		n++
	}
	return n
}

// ahead tells whether a is nearer to k than b is: at the first digit in which a and b are unlike it is a that is like k.
func ahead(k, a, b string) bool {
	n := common(a, b)
	return n < len(a) && a[n] == k[n]
}

// nearest lays the peers by how near they are to k, by the chapter's words: each is put in ahead of the first one that is farther, or as near and greater.
func nearest(k api.Key, l []int) []int {
	var all []int
	to := spelt(k)
	for _, peer := range l {
		mine, at := speltOf(peer), 0
		for at < len(all) {
			other := speltOf(all[at])
			if ahead(to, mine, other) || mine == other && peer < all[at] {
				break
			}
			at++
		}
		all = slices.Insert(all, at, peer)
	}
	return all
}

// twin is a table by the chapter's words alone: whom it knows, in the order in which they were seen last.
type twin struct {
	own   int
	known []int
}

func (w *twin) prefix(peer int) int {
	return common(speltOf(peer), speltOf(w.own))
}

func (w *twin) see(peer int) (int, bool) {
	if peer < 0 || peer == w.own {
		return 0, false
	}
	if w.drop(peer) {
		w.known = append(w.known, peer)
		return 0, false
	}
	var beside []int
	for _, other := range w.known {
		if w.prefix(other) == w.prefix(peer) {
			beside = append(beside, other)
		}
	}
	if len(beside) >= 3 {
		return beside[0], true
	}
	w.known = append(w.known, peer)
	return 0, false
}

func (w *twin) drop(peer int) bool {
	i := slices.Index(w.known, peer)
	if i >= 0 {
		w.known = append(slices.Clone(w.known[:i]), w.known[i+1:]...)
	}
	return i >= 0
}

// step is one call, a Drop or a See of that peer, and what is asked behind it: Near of that key and number.
type step struct {
	drop bool
	peer int
	k    api.Key
	n    int
}

// told is what a step answers, and what the table tells behind it.
type told struct {
	first     int
	is        bool
	all, near []int
}

func sameTold(a, b told) bool {
	return a.first == b.first && a.is == b.is && slices.Equal(a.all, b.all) && slices.Equal(a.near, b.near)
}

func (s step) ofTable(x *Table) told {
	var got told
	if s.drop {
		got.is = x.Drop(s.peer)
	} else {
		got.first, got.is = x.See(s.peer)
	}
	got.all, got.near = x.All(), x.Near(s.k, s.n)
	return got
}

func (s step) ofTwin(w *twin) told {
	var got told
	if s.drop {
		got.is = w.drop(s.peer)
	} else {
		got.first, got.is = w.see(s.peer)
	}
	got.all, got.near = slices.Sorted(slices.Values(w.known)), nearest(s.k, w.known)
	if n := max(s.n, 0); n < len(got.near) {
		got.near = got.near[:n]
	}
	return got
}

func TestP1901Example(t *testing.T) {
	for _, own := range append([]int{7, 11}, odd...) {
		x := New(own)
		if x == nil {
			t.Fatalf("P1901: New(%d) is nil", own)
		}
		has(t, "P1901", "a new one", x)
		for _, k := range someKeys() {
			for _, n := range []int{math.MinInt, -1, 0, 1, 1000, math.MaxInt} {
				if got := x.Near(k, n); len(got) != 0 {
					t.Errorf("P1901: a new one of %d: Near(%x, %d) is %v", own, k, n, got)
				}
			}
		}
		for _, peer := range odd {
			drops(t, "P1901", "a new one", x, peer, false)
		}
		has(t, "P1901", "a new one, behind Drops", x)
	}
}

func TestP1901ByHand(t *testing.T) {
	const see, drop = false, true
	x := New(0)
	for i, w := range []struct {
		drop      bool
		peer      int
		first     int
		is        bool
		all, near []int
	}{
		{see, 1, 0, false, []int{1}, []int{1}},
		{see, 2, 0, false, []int{1, 2}, []int{2, 1}},
		{see, 8, 0, false, []int{1, 2, 8}, []int{2, 1, 8}},
		{see, 4, 0, false, []int{1, 2, 4, 8}, []int{4, 2, 1, 8}},
		{see, 5, 1, true, []int{1, 2, 4, 8}, []int{4, 2, 1, 8}},
		{see, 1, 0, false, []int{1, 2, 4, 8}, []int{4, 2, 1, 8}},
		{see, 5, 2, true, []int{1, 2, 4, 8}, []int{4, 2, 1, 8}},
		{see, 0, 0, false, []int{1, 2, 4, 8}, []int{4, 2, 1, 8}},
		{drop, 0, 0, false, []int{1, 2, 4, 8}, []int{4, 2, 1, 8}},
		{see, -1, 0, false, []int{1, 2, 4, 8}, []int{4, 2, 1, 8}},
		{drop, -1, 0, false, []int{1, 2, 4, 8}, []int{4, 2, 1, 8}},
		{see, 14, 0, false, []int{1, 2, 4, 8, 14}, []int{4, 2, 1, 14, 8}},
		{see, 11, 0, false, []int{1, 2, 4, 8, 11, 14}, []int{4, 2, 1, 14, 11, 8}},
		{see, 12, 0, false, []int{1, 2, 4, 8, 11, 12, 14}, []int{4, 2, 1, 14, 11, 12, 8}},
		{see, 13, 8, true, []int{1, 2, 4, 8, 11, 12, 14}, []int{4, 2, 1, 14, 11, 12, 8}},
		{drop, 14, 0, true, []int{1, 2, 4, 8, 11, 12}, []int{4, 2, 1, 11, 12, 8}},
		{see, 13, 8, true, []int{1, 2, 4, 8, 11, 12}, []int{4, 2, 1, 11, 12, 8}},
		{see, 5, 2, true, []int{1, 2, 4, 8, 11, 12}, []int{4, 2, 1, 11, 12, 8}},
		{drop, 3, 0, false, []int{1, 2, 4, 8, 11, 12}, []int{4, 2, 1, 11, 12, 8}},
		{see, 3, 0, false, []int{1, 2, 3, 4, 8, 11, 12}, []int{4, 2, 1, 3, 11, 12, 8}},
		{drop, 2, 0, true, []int{1, 3, 4, 8, 11, 12}, []int{4, 1, 3, 11, 12, 8}},
		{see, 5, 0, false, []int{1, 3, 4, 5, 8, 11, 12}, []int{5, 4, 1, 3, 11, 12, 8}},
		{see, 7, 4, true, []int{1, 3, 4, 5, 8, 11, 12}, []int{5, 4, 1, 3, 11, 12, 8}},
		{drop, 8, 0, true, []int{1, 3, 4, 5, 11, 12}, []int{5, 4, 1, 3, 11, 12}},
		{see, 13, 0, false, []int{1, 3, 4, 5, 11, 12, 13}, []int{5, 4, 1, 3, 11, 12, 13}},
		{see, 11, 0, false, []int{1, 3, 4, 5, 11, 12, 13}, []int{5, 4, 1, 3, 11, 12, 13}},
		{see, 16, 12, true, []int{1, 3, 4, 5, 11, 12, 13}, []int{5, 4, 1, 3, 11, 12, 13}},
		{see, 4, 0, false, []int{1, 3, 4, 5, 11, 12, 13}, []int{5, 4, 1, 3, 11, 12, 13}},
		{see, 10, 1, true, []int{1, 3, 4, 5, 11, 12, 13}, []int{5, 4, 1, 3, 11, 12, 13}},
		{drop, 13, 0, true, []int{1, 3, 4, 5, 11, 12}, []int{5, 4, 1, 3, 11, 12}},
		{drop, 13, 0, false, []int{1, 3, 4, 5, 11, 12}, []int{5, 4, 1, 3, 11, 12}},
	} {
		s := step{w.drop, w.peer, key.Of(7), 1000}
		want := told{w.first, w.is, w.all, w.near}
		if got := s.ofTable(x); !sameTold(got, want) {
			t.Errorf("P1901: call %d (drop %v, peer %d) is %v, not %v", i, w.drop, w.peer, got, want)
		}
	}
}

func TestP1901ItsOwnPeer(t *testing.T) {
	for _, own := range append([]int{7, 11}, odd...) {
		x, known := New(own), []int{}
		for _, peer := range []int{3, 8, 22} {
			for range 2 {
				quiet(t, "P1901", "its own", x, own)
				drops(t, "P1901", "its own", x, own, false)
				has(t, "P1901", "its own", x, known...)
			}
			quiet(t, "P1901", "beside its own", x, peer)
			known = append(known, peer)
		}
	}
}

func TestP1901ItsOwnPeerAndAFullBucketOfItsKey(t *testing.T) {
	x := seen(7, 7+whole, 7+2*whole, 7+3*whole)
	quiet(t, "P1901", "its own, and no room", x, 7)
	drops(t, "P1901", "its own, and no room", x, 7, false)
	quiet(t, "P1901", "below 0, with its key, and no room", x, 7-whole)
	drops(t, "P1901", "below 0, with its key, and no room", x, 7-whole, false)
	has(t, "P1901", "its own, and no room", x, 7+whole, 7+2*whole, 7+3*whole)
	refuses(t, "P1901", "its own was not seen", x, 7+4*whole, 7+whole)
	drops(t, "P1901", "one with its key", x, 7+2*whole, true)
	quiet(t, "P1901", "one with its key", x, 7+4*whole)
	has(t, "P1901", "one with its key", x, 7+whole, 7+3*whole, 7+4*whole)
}

func TestP1901TablesOfPeersBelow0(t *testing.T) {
	x := seen(-1, math.MaxUint32, math.MaxUint32+whole, math.MaxUint32+2*whole, 0)
	has(t, "P1901", "of -1", x, 0, math.MaxUint32, math.MaxUint32+whole, math.MaxUint32+2*whole)
	refuses(t, "P1901", "of -1", x, math.MaxUint32+3*whole, math.MaxUint32)
	for _, peer := range []int{-1, -2, math.MinInt} {
		quiet(t, "P1901", "of -1", x, peer)
		drops(t, "P1901", "of -1", x, peer, false)
	}
	// Those whose keys have nothing in common with that of -1 are many; 0 is one of them, and the first.
	quiet(t, "P1901", "of -1", x, 1)
	quiet(t, "P1901", "of -1", x, 2)
	refuses(t, "P1901", "of -1", x, 3, 0)
	has(t, "P1901", "of -1", x, 0, 1, 2, math.MaxUint32, math.MaxUint32+whole, math.MaxUint32+2*whole)
}

func TestP1901PeersBelow0(t *testing.T) {
	full := []int{0, 3, 6, 1, 10, 15, 8, 11, 12}
	for _, own := range []int{0, 7, -1, -7} {
		x, y := New(own), seen(own, full...)
		before := y.All()
		for _, peer := range []int{-1, -2, -3, -256, math.MinInt32, -whole, 3 - whole, math.MinInt + 3, math.MinInt} {
			for _, z := range []*Table{x, y} {
				quiet(t, "P1901", "below 0", z, peer)
				drops(t, "P1901", "below 0", z, peer, false)
			}
			has(t, "P1901", "below 0, beside nobody", x)
			has(t, "P1901", "below 0, beside others", y, before...)
		}
	}
}

func TestP1901ABucketForEachPrefix(t *testing.T) {
	x, known := New(7), []int{}
	// One of each shelf, then another one of each, and so on: the shelves fill up side by side.
	for i := range 3 {
		for _, l := range shelves {
			quiet(t, "P1901", "there is room", x, l[i])
			known = append(known, l[i])
		}
		has(t, "P1901", "there is room", x, known...)
	}
	for n, l := range shelves {
		refuses(t, "P1901", fmt.Sprintf("shelf %d is full", n), x, l[3], l[0])
	}
	has(t, "P1901", "all are full", x, known...)
	for n, l := range shelves {
		when := fmt.Sprintf("shelf %d", n)
		drops(t, "P1901", when, x, l[1], true)
		for m, other := range shelves {
			if m != n {
				refuses(t, "P1901", when+" has room, others have none", x, other[3], other[0])
			}
		}
		quiet(t, "P1901", when+" has room", x, l[3])
		refuses(t, "P1901", when+" is full again", x, l[1], l[0])
		drops(t, "P1901", when, x, l[3], true)
		quiet(t, "P1901", when+" has room", x, l[1])
	}
	has(t, "P1901", "all are full again", x, known...)
}

func TestP1901ABucketHoldsAsManyAsABucket(t *testing.T) {
	for _, l := range shelves {
		x := New(7)
		for i, peer := range l {
			if i < api.Bucket {
				quiet(t, "P1901", "one shelf alone", x, peer)
			} else {
				refuses(t, "P1901", "one shelf alone", x, peer, l[0])
			}
		}
		has(t, "P1901", "one shelf alone", x, l[:api.Bucket]...)
	}
}

func TestP1901BucketsOfTheNearest(t *testing.T) {
	// 23, 25 and 26 bits in common with the key of peer 7, and all of them: few peers are so near, and none of them are on one shelf but those beside each other here.
	x, known := New(7), []int{}
	for _, l := range [][]int{{2513944}, {14352795}, {6072797, 7121913}, {7 + whole, 7 + 2*whole, 7 + 3*whole}, {2513944 + whole, 2513944 + 2*whole}} {
		for _, peer := range l {
			quiet(t, "P1901", "the nearest", x, peer)
			known = append(known, peer)
		}
	}
	has(t, "P1901", "the nearest", x, known...)
	refuses(t, "P1901", "23 bits in common", x, 2513944+3*whole, 2513944)
	refuses(t, "P1901", "all bits in common", x, 7+4*whole, 7+whole)
	quiet(t, "P1901", "26 bits in common", x, 6072797+whole)
	refuses(t, "P1901", "26 bits in common", x, 7121913+whole, 6072797)
	quiet(t, "P1901", "25 bits in common", x, 14352795+whole)
	has(t, "P1901", "the nearest", x, append(known, 6072797+whole, 14352795+whole)...)
}

func TestP1901SeenAgain(t *testing.T) {
	for _, l := range shelves {
		for i, again := range l[:3] {
			x := seen(7, l[:3]...)
			quiet(t, "P1901", "seen again", x, again)
			has(t, "P1901", "seen again", x, l[:3]...)
			order := append(slices.Delete(slices.Clone(l[:3]), i, i+1), again)
			for _, first := range order {
				refuses(t, "P1901", "seen again", x, l[3], first)
				quiet(t, "P1901", "seen again, too", x, first)
			}
			refuses(t, "P1901", "all seen again", x, l[3], order[0])
			has(t, "P1901", "all seen again", x, l[:3]...)
		}
	}
	x := seen(7, 8)
	for range 5 {
		quiet(t, "P1901", "again and again", x, 8)
		has(t, "P1901", "again and again", x, 8)
	}
}

func TestP1901FullTurnsNothing(t *testing.T) {
	x := seen(7, 0, 3, 6, 1, 8)
	for range 4 {
		refuses(t, "P1901", "full", x, 9, 0)
		has(t, "P1901", "full", x, 0, 3, 6, 1, 8)
		drops(t, "P1901", "who was refused is not there", x, 9, false)
		refuses(t, "P1901", "full", x, 14, 0)
	}
	quiet(t, "P1901", "other shelves have room", x, 10)
	quiet(t, "P1901", "other shelves have room", x, 11)
	refuses(t, "P1901", "full still", x, 9, 0)
	drops(t, "P1901", "the first one is there no more", x, 0, true)
	quiet(t, "P1901", "there is room", x, 9)
	refuses(t, "P1901", "full again", x, 0, 3)
	has(t, "P1901", "full again", x, 3, 6, 9, 1, 8, 10, 11)
}

func TestP1901WhoeverIsToldIsWhole(t *testing.T) {
	// Whole numbers are told, not their low bits alone.
	const high = 3 * whole
	x := seen(7, 8+high, 11+high, 12+high)
	refuses(t, "P1901", "high numbers", x, 8, 8+high)
	refuses(t, "P1901", "high numbers", x, 13+high, 8+high)
	has(t, "P1901", "high numbers", x, 8+high, 11+high, 12+high)
	drops(t, "P1901", "one with the same key is not there", x, 8, false)
	drops(t, "P1901", "high numbers", x, 8+high, true)
	quiet(t, "P1901", "room", x, 8)
	has(t, "P1901", "room", x, 8, 11+high, 12+high)
}

func TestP1901Drop(t *testing.T) {
	for n, l := range shelves {
		for i, peer := range l[:3] {
			other := shelves[(n+1)%len(shelves)]
			x := seen(7, append(slices.Clone(other[:2]), l[:3]...)...)
			left := slices.Delete(slices.Clone(l[:3]), i, i+1)
			drops(t, "P1901", "of another shelf, not there", x, other[2], false)
			drops(t, "P1901", "of its shelf, not there", x, l[3], false)
			drops(t, "P1901", "there", x, peer, true)
			has(t, "P1901", "there", x, append(slices.Clone(other[:2]), left...)...)
			drops(t, "P1901", "there no more", x, peer, false)
			has(t, "P1901", "there no more", x, append(slices.Clone(other[:2]), left...)...)
			quiet(t, "P1901", "room behind it", x, l[3])
			refuses(t, "P1901", "full again", x, peer, left[0])
			has(t, "P1901", "full again", x, append(slices.Clone(other[:2]), append(left, l[3])...)...)
		}
	}
	x := seen(7, 0, 3, 6)
	for _, peer := range []int{3, 0, 6} {
		drops(t, "P1901", "all", x, peer, true)
	}
	has(t, "P1901", "all", x)
	for _, peer := range []int{9, 6, 14} {
		quiet(t, "P1901", "behind all", x, peer)
	}
	refuses(t, "P1901", "behind all", x, 0, 9)
}

func TestP1901EdgesOfThePeers(t *testing.T) {
	for _, own := range odd {
		for i, a := range odd {
			for _, b := range odd[i+1:] {
				if a < 0 || a == own || b == own {
					continue
				}
				x := New(own)
				quiet(t, "P1901", "odd", x, b)
				quiet(t, "P1901", "odd", x, a)
				has(t, "P1901", "odd", x, a, b)
				drops(t, "P1901", "odd", x, b, true)
				drops(t, "P1901", "odd", x, b, false)
				has(t, "P1901", "odd", x, a)
			}
		}
	}
}

func TestP1901NearByHand(t *testing.T) {
	const one, six, seven = 1 + whole, 7 + whole, 7 + 2*whole
	// Of those with one key the greater one was seen first.
	x := seen(7, 0, 3, 6, one, 1, 10, 2, 4, 22, 5, 8, 11, 12, seven, six)
	for _, w := range []struct {
		name string
		k    api.Key
		near []int
	}{
		{"one that is known", key.Of(3), []int{3, 6, 0, 22, 2, 4, 5, six, seven, 10, 1, one, 8, 11, 12}},
		{"one that two have", key.Of(1), []int{1, one, 10, six, seven, 5, 4, 2, 22, 0, 6, 3, 12, 11, 8}},
		{"its own", key.Of(7), []int{six, seven, 5, 4, 22, 2, 10, 1, one, 0, 6, 3, 11, 12, 8}},
		{"another", key.Of(100, 7), []int{six, seven, 5, 4, 22, 2, 10, 1, one, 0, 6, 3, 11, 12, 8}},
		{"an object's", key.Of(2, 3), []int{3, 6, 0, 1, one, 10, 2, 22, 4, 5, six, seven, 8, 12, 11}},
		{"zero", api.Key{}, []int{0, 3, 6, 5, six, seven, 22, 2, 4, 10, 1, one, 8, 11, 12}},
		{"filled", filled(), []int{12, 11, 8, 1, one, 10, 4, 2, 22, six, seven, 5, 6, 3, 0}},
	} {
		for _, n := range []int{math.MinInt, -1000, -1, 0, 1, 2, 3, 9, 10, 13, 14, 15, 16, 999, 1000, 1001, whole, math.MaxInt} {
			want := w.near[:max(0, min(n, len(w.near)))]
			if got := x.Near(w.k, n); !slices.Equal(got, want) {
				t.Errorf("P1901: %s: Near(%x, %d) is %v, not %v", w.name, w.k, n, got, want)
			}
		}
	}
}

func TestP1901NearOfOneKeyTheLesserFirst(t *testing.T) {
	l := []int{4 + whole, 4, 4 + 2*whole}
	for _, own := range []int{7, 4 + 3*whole, 4 - whole} {
		for i := range 3 {
			for j := range 3 {
				if i == j {
					continue
				}
				x := seen(own, l[i], l[j], l[3-i-j])
				for _, k := range someKeys() {
					for n, want := range [][]int{nil, {4}, {4, 4 + whole}, {4, 4 + whole, 4 + 2*whole}} {
						if got := x.Near(k, n); !slices.Equal(got, want) {
							t.Errorf("P1901: one key: Near(%x, %d) is %v, not %v", k, n, got, want)
						}
					}
				}
			}
		}
	}
}

func TestP1901NearOfManyOfAllBuckets(t *testing.T) {
	x, known := New(7), []int{}
	for _, l := range shelves {
		for _, peer := range l[:3] {
			x.See(peer)
			known = append(known, peer)
		}
	}
	c := chance(1901)
	keys := someKeys()
	for _, peer := range known {
		keys = append(keys, key.Of(peer))
	}
	for range 300 {
		k := c.key()
		// Near to the table's own key, so that all bits of it count.
		own := key.Of(7)
		copy(k[:], own[:c.below(len(own))])
		keys = append(keys, k)
	}
	for _, k := range keys {
		want := nearest(k, known)
		for _, n := range []int{-1, 0, 1, 4, len(known) - 1, len(known), len(known) + 1, 1000, 1001, math.MaxInt} {
			if got := x.Near(k, n); !slices.Equal(got, want[:max(0, min(n, len(want)))]) {
				t.Errorf("P1901: Near(%x, %d) is %v, not the first of %v", k, n, got, want)
			}
		}
	}
	for _, peer := range known {
		// The key of one that is known is nearest to itself.
		if got := x.Near(key.Of(peer), 1); len(got) != 1 || key.Of(got[0]) != key.Of(peer) {
			t.Errorf("P1901: nearest to the key of %d is %v", peer, got)
		}
	}
}

func TestP1901AllRising(t *testing.T) {
	c := chance(19)
	for range 50 {
		x := New(c.below(50))
		for range 200 {
			x.See(c.below(100) << c.below(30))
			all := x.All()
			for i := range all {
				if i > 0 && all[i-1] >= all[i] {
					t.Fatalf("P1901: All is %v", all)
				}
			}
		}
	}
}

// everyRow does every row of n calls, of See and Drop of these peers, with a table and its twin.
func everyRow(t *testing.T, own int, peers []int, row []step, n int) {
	if n == 0 {
		x, w := New(own), &twin{own: own}
		for i, s := range row {
			if got, want := s.ofTable(x), s.ofTwin(w); !sameTold(got, want) {
				t.Fatalf("P1901: of %d: call %d of %v is %v, not %v", own, i, row, got, want)
			}
		}
		return
	}
	for _, peer := range peers {
		for _, drop := range []bool{false, true} {
			everyRow(t, own, peers, append(row, step{drop, peer, key.Of(n), 4}), n-1)
		}
	}
}

func TestP1901EveryRowOfCalls(t *testing.T) {
	for n := range 6 {
		everyRow(t, 7, []int{0, 3, 6, 9}, nil, n)
	}
	for n := range 5 {
		everyRow(t, 1, []int{1, -1, 0, 2, 1 + whole}, nil, n)
	}
}

// drawnRow are n calls of peers below most, of which drops of eight are Drops; some of the peers are great ones.
func drawnRow(c *chance, n, most, drops int) []step {
	var row []step
	for range n {
		s := step{c.below(8) < drops, c.below(most) - 3, c.key(), c.below(20) - 2}
		if c.below(5) == 0 {
			s.peer += whole * c.below(3)
		}
		if c.below(3) == 0 {
			s.k = key.Of(s.peer)
		}
		row = append(row, s)
	}
	return row
}

func TestP1901DrawnRowsOfCalls(t *testing.T) {
	c := chance(190119)
	for n := range 60 {
		own := c.below(30) - 5
		x, w := New(own), &twin{own: own}
		row := drawnRow(&c, 200, 8+3*(n%20), 1+n%3)
		for i, s := range row {
			if got, want := s.ofTable(x), s.ofTwin(w); !sameTold(got, want) {
				t.Fatalf("P1901: of %d: call %d (%v) of row %d is %v, not %v", own, i, s, n, got, want)
			}
		}
	}
}

func TestP1902NilTable(t *testing.T) {
	var none *Table
	full := seen(7, 0, 3, 6)
	for range 2 {
		for _, peer := range append([]int{9, 7, 3}, odd...) {
			quiet(t, "P1902", "a nil one", none, peer)
			drops(t, "P1902", "a nil one", none, peer, false)
			has(t, "P1902", "a nil one", none)
		}
		for _, k := range someKeys() {
			for _, n := range []int{math.MinInt, -1, 0, 1, 1000, 1001, math.MaxInt} {
				if got := none.Near(k, n); len(got) != 0 {
					t.Errorf("P1902: a nil one: Near(%x, %d) is %v", k, n, got)
				}
			}
		}
	}
	has(t, "P1902", "beside a nil one", full, 0, 3, 6)
}

func TestP1902OneThatNewDidNotMake(t *testing.T) {
	var x Table
	for range 2 {
		for _, peer := range odd {
			x.See(peer)
			x.Drop(peer)
			x.Near(key.Of(peer), peer)
			x.All()
		}
	}
	has(t, "P1902", "one that New did not make", &x)
}

func TestP1902TwoHaveNothingInCommon(t *testing.T) {
	for _, own := range []int{7, 22, -3} {
		x, y := New(7), New(own)
		for _, peer := range []int{0, 3, 6} {
			quiet(t, "P1902", "the first of two", x, peer)
		}
		has(t, "P1902", "the second of two", y)
		drops(t, "P1902", "the second of two", y, 3, false)
		for _, peer := range []int{6, 8, 0} {
			quiet(t, "P1902", "the second of two", y, peer)
		}
		drops(t, "P1902", "the first of two", x, 6, true)
		quiet(t, "P1902", "the first of two", x, 9)
		refuses(t, "P1902", "the first of two", x, 6, 0)
		has(t, "P1902", "the first of two", x, 0, 3, 9)
		has(t, "P1902", "the second of two", y, 0, 6, 8)
	}
}

func TestP1902ManyTurnByTurn(t *testing.T) {
	c := chance(1902)
	const many = 6
	var tables [many]*Table
	var twins [many]*twin
	for i := range many {
		tables[i], twins[i] = New(i/2), &twin{own: i / 2}
	}
	for n, s := range drawnRow(&c, 2000, 30, 3) {
		i := c.below(many)
		if got, want := s.ofTable(tables[i]), s.ofTwin(twins[i]); !sameTold(got, want) {
			t.Fatalf("P1902: call %d (%v) of table %d is %v, not %v", n, s, i, got, want)
		}
		for j := range tables {
			has(t, "P1902", "turn by turn", tables[j], twins[j].known...)
		}
	}
}

func TestP1902CopiedTablesGoTheirOwnWays(t *testing.T) {
	there := []int{0, 3, 6, 1, 8}
	for _, peer := range []int{0, 3, 6, 9, 1, 10, 2, 8, 11} {
		for _, drop := range []bool{false, true} {
			s := step{drop: drop, peer: peer}
			a := seen(7, there...)
			b := *a
			s.ofTable(&b)
			has(t, "P1902", "the one that was copied", a, there...)
			refuses(t, "P1902", "the one that was copied", a, 9, 0)
			a = seen(7, there...)
			b = *a
			s.ofTable(a)
			has(t, "P1902", "the copy", &b, there...)
			refuses(t, "P1902", "the copy", &b, 9, 0)
		}
	}
}

func TestP1902AnswersMayBeChanged(t *testing.T) {
	there := []int{0, 3, 6, 1, 8, 11, 12}
	x := seen(7, there...)
	for _, ask := range []func() []int{
		x.All,
		func() []int { return x.Near(key.Of(3), 1000) },
		func() []int { return x.Near(key.Of(3), 4) },
	} {
		before := slices.Clone(ask())
		got, other := ask(), ask()
		// What stands behind an answer is none of the table's, either.
		got = append(got, 70, 71, 72)
		for i := range got {
			got[i] = 60 + i
		}
		if !slices.Equal(other, before) {
			t.Errorf("P1902: one answer is turned by what is done to another: %v", other)
		}
		if again := ask(); !slices.Equal(again, before) {
			t.Errorf("P1902: behind an answer that was turned it is %v, not %v", again, before)
		}
		has(t, "P1902", "what was told is turned", x, there...)
		refuses(t, "P1902", "what was told is turned", x, 9, 0)
		refuses(t, "P1902", "what was told is turned", x, 13, 8)
	}
}

func TestP1902AnswersStay(t *testing.T) {
	c := chance(19021)
	x := New(7)
	var answers, copies [][]int
	for _, s := range drawnRow(&c, 400, 20, 3) {
		got := s.ofTable(x)
		for _, l := range [][]int{got.all, got.near} {
			answers, copies = append(answers, l), append(copies, slices.Clone(l))
		}
		for i := range answers {
			if !slices.Equal(answers[i], copies[i]) {
				t.Fatalf("P1902: answer %d was %v, and is %v", i, copies[i], answers[i])
			}
		}
	}
}

func TestP1902AskingTurnsNothing(t *testing.T) {
	c := chance(19022)
	for _, l := range shelves {
		x := seen(7, l[2], l[0], l[1])
		for range 20 {
			x.All()
			x.Near(c.key(), c.below(10))
			x.Near(key.Of(l[1]), 3)
		}
		for _, first := range []int{l[2], l[0], l[1]} {
			refuses(t, "P1902", "behind questions", x, l[3], first)
			drops(t, "P1902", "behind questions", x, first, true)
			x.See(l[3])
			x.Drop(l[3])
			x.See(first)
		}
		has(t, "P1902", "behind questions", x, l[:3]...)
	}
}

func TestP1902SameCallsSameAnswers(t *testing.T) {
	c := chance(19023)
	row := drawnRow(&c, 300, 40, 3)
	var before []told
	for n := range 5 {
		x := New(7)
		for i, s := range row {
			got := s.ofTable(x)
			if n == 0 {
				before = append(before, got)
			} else if !sameTold(got, before[i]) {
				t.Fatalf("P1902: call %d (%v) is %v, and was %v", i, s, got, before[i])
			}
			for range n {
				x.All()
				x.Near(s.k, 1000)
			}
		}
	}
}

func TestP1902AtOnce(t *testing.T) {
	c := chance(19024)
	row := drawnRow(&c, 300, 40, 3)
	all := make([][]told, 6)
	var w sync.WaitGroup
	for i := range all {
		w.Add(1)
		go func() {
			defer w.Done()
			x := New(7)
			for _, s := range row {
				all[i] = append(all[i], s.ofTable(x))
			}
		}()
	}
	w.Wait()
	for i := range all {
		if !slices.EqualFunc(all[i], all[0], sameTold) {
			t.Errorf("P1902: table %d answers otherwise than table 0", i)
		}
	}
}
