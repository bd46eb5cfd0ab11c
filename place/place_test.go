package place

import (
	"encoding/hex"
	"fmt"
	"math"
	"slices"
	"strings"
	"sync"
	"testing"

	"fountain/api"
	"fountain/key"
	"fountain/object"
	"fountain/record"
)

// A key is made of the low 32 bits of its numbers: of a number that is whole more it is the same.
const whole = 1 << 32

// odd are numbers at the ends of their type, and about 0.
var odd = []int{math.MinInt, math.MinInt + 1, -whole, math.MinInt32, -256, -2, -1, 0, 1, 2, 255, 256, api.MaxEsi - 1, math.MaxInt32, math.MaxUint32, whole, math.MaxInt - 1, math.MaxInt}

// read is the key that is written as 40 hexadecimal digits.
func read(t *testing.T, digits string) api.Key {
	t.Helper()
	b, err := hex.DecodeString(digits)
	if err != nil || len(b) != 20 {
		t.Fatalf("%q is no key", digits)
	}
	return api.Key(b)
}

// begun is a key of these first bytes, and 0 behind.
func begun(first ...byte) api.Key {
	var k api.Key
	copy(k[:], first)
	return k
}

// chance makes numbers.
type chance uint32

func (c *chance) below(n int) int {
	*c = *c*1664525 + 1013904223
	return int(*c>>9) % n
}

func (c *chance) key() api.Key {
	var k api.Key
	for i := range k {
		k[i] = byte(c.below(256))
	}
	return k
}

// number is a small one, now and then an odd one.
func (c *chance) number(below int) int {
	if c.below(12) == 0 {
		return odd[c.below(len(odd))]
	}
	return c.below(below)
}

// peers are up to most of them, some of which are one, some of which have the key of another one.
func (c *chance) peers(most int) []int {
	var l []int
	for range c.below(most + 1) {
		peer := c.number(12)
		if c.below(5) == 0 {
			peer += whole * c.below(3)
		}
		l = append(l, peer)
	}
	return l
}

// record is one that may be, or may not be.
func (c *chance) record() api.Record {
	r := api.Record{
		Id:    api.Id{Peer: c.number(3), Number: c.number(4)},
		Shape: api.Shape{Bytes: c.number(99), Size: c.number(9), Most: c.number(9)},
		Block: c.number(3),
		Esi:   c.number(40),
		Gone:  c.below(4) == 0,
		Until: c.number(99),
	}
	for range c.below(4) {
		r.Data = append(r.Data, byte(c.below(256)))
	}
	return r
}

func (c *chance) records(most int) []api.Record {
	var l []api.Record
	for range c.below(most + 1) {
		if len(l) > 0 && c.below(6) == 0 {
			l = append(l, l[c.below(len(l))])
			continue
		}
		l = append(l, c.record())
	}
	return l
}

// spelt is a key as 160 digits, the highest bit of byte 0 first.
func spelt(k api.Key) string {
	var b strings.Builder
	for _, x := range k {
		fmt.Fprintf(&b, "%08b", x)
	}
	return b.String()
}

// ahead tells whether a is nearer to k than b is: at the first digit in which a and b are unlike it is a that is like k.
func ahead(k, a, b string) bool {
	for i := range a {
		if a[i] != b[i] {
			return a[i] == k[i]
		}
	}
	return false
}

// closest is at which place of l the one stands that lies nearest to k, by the chapter's words; l is not empty.
func closest(k api.Key, l []int) int {
	best := len(l) - 1
	for i := len(l) - 2; i >= 0; i-- {
		// From behind: one that is as near as a later one takes its place.
		if !ahead(spelt(k), spelt(key.Of(l[best])), spelt(key.Of(l[i]))) {
			best = i
		}
	}
	return best
}

// lies is the key at which a record lies, by the chapter's words.
func lies(r api.Record) api.Key {
	if r.Gone {
		return key.Of(r.Id.Peer, r.Id.Number)
	}
	return key.Of(r.Id.Peer, r.Id.Number, r.Block, r.Esi)
}

// spread is what Spread is to answer, by the chapter's words: peer by peer, each takes its records.
func spread(records []api.Record, l []int) [][]api.Record {
	lists := make([][]api.Record, len(l))
	for i, peer := range l {
		if slices.Contains(l[:i], peer) {
			continue
		}
		for _, r := range records {
			if l[closest(lies(r), l)] == peer {
				lists[i] = append(lists[i], r)
			}
		}
	}
	return lists
}

func sameRecord(a, b api.Record) bool {
	return a.Id == b.Id && a.Shape == b.Shape && a.Block == b.Block && a.Esi == b.Esi && a.Gone == b.Gone && a.Until == b.Until && slices.Equal(a.Data, b.Data)
}

func sameRecords(a, b []api.Record) bool {
	return slices.EqualFunc(a, b, sameRecord)
}

func sameLists(a, b [][]api.Record) bool {
	return slices.EqualFunc(a, b, sameRecords)
}

// deep is a copy that shares nothing with l.
func deep(l []api.Record) []api.Record {
	l = slices.Clone(l)
	for i := range l {
		l[i].Data = slices.Clone(l[i].Data)
	}
	return l
}

func deepLists(l [][]api.Record) [][]api.Record {
	l = slices.Clone(l)
	for i := range l {
		l[i] = deep(l[i])
	}
	return l
}

// symbol is one of object 3 of peer 2, that may be.
func symbol(block, esi int) api.Record {
	return api.Record{Id: api.Id{Peer: 2, Number: 3}, Shape: api.Shape{Bytes: 30, Size: 2, Most: 10}, Block: block, Esi: esi, Until: 50, Data: []byte{byte(block), byte(esi)}}
}

// tombstone is that of an object.
func tombstone(peer, number int) api.Record {
	return api.Record{Id: api.Id{Peer: peer, Number: number}, Gone: true, Until: 50}
}

// isPeer asks Peer, twice.
func isPeer(t *testing.T, promise, when string, k api.Key, want int, l ...int) {
	t.Helper()
	for range 2 {
		if got, is := Peer(k, l...); got != want || !is {
			t.Errorf("%s: %s: Peer of %x and %d is %d, %v, not %d", promise, when, k, l, got, is, want)
		}
	}
}

// isSpread asks Spread, twice.
func isSpread(t *testing.T, promise, when string, records []api.Record, l []int, want ...[]api.Record) {
	t.Helper()
	for range 2 {
		if got := Spread(records, l...); !sameLists(got, want) {
			t.Errorf("%s: %s: Spread of %v over %d is %v, not %v", promise, when, records, l, got, want)
		}
	}
}

func TestP2301KeyAndHomeOfKnownNumbers(t *testing.T) {
	id := api.Id{Peer: 2, Number: 3}
	for _, k := range []struct {
		name, digits string
		got          api.Key
	}{
		{"Home of object 3 of peer 2", "370ceddbb49718e97791361dbc9544ede9337a80", Home(id)},
		{"Key of its symbol 0 of block 0", "f566a7da1b3812900e2f91b2ef9f61bd3a3c24b6", Key(id, 0, 0)},
		{"Key of its last symbol of block 0", "218e7a44d49821e437b67334c008455bf8477a9f", Key(id, 0, 1<<24-1)},
		{"Home of object 2 of peer 1", "c6e3c6257624e1884577941294725a584371d2d0", Home(api.Id{Peer: 1, Number: 2})},
		{"Home of object 1 of peer 2", "9752794dc6f9af2ab77011b5d433f0a14b99bd0e", Home(api.Id{Peer: 2, Number: 1})},
		{"Home of object 0 of peer 0", "00529ebd57f947e2ca0819cc1854f2dabd9613bb", Home(api.Id{})},
		{"Key of nothing but 0", "00529ebd57f947e2ca0819cc1854f2dabd9613bb", Key(api.Id{}, 0, 0)},
		{"Key of symbol 2 of block 1 of object 0 of peer 0", "c6e3c6257624e1884577941294725a584371d2d0", Key(api.Id{}, 1, 2)},
		{"Key of symbol 1 of block 2 of object 0 of peer 0", "9752794dc6f9af2ab77011b5d433f0a14b99bd0e", Key(api.Id{}, 2, 1)},
		{"Home of the greatest and the least number", "df0ef02cd18a925e0e8c4c880d83718eb806d3e5", Home(api.Id{Peer: math.MaxInt, Number: math.MinInt})},
		{"Home of the least and the greatest number", "ab08eb071fa2a32efe2ddfd0ef84e945d85ff41f", Home(api.Id{Peer: math.MinInt, Number: math.MaxInt})},
	} {
		if want := read(t, k.digits); k.got != want {
			t.Errorf("P2301: %s is %x, not %x", k.name, k.got, want)
		}
	}
}

func TestP2301KeyAndHomeOfAnyNumbers(t *testing.T) {
	numbers := append([]int{3, 7, 40, 1000}, odd...)
	for _, peer := range numbers {
		for _, number := range numbers {
			id := api.Id{Peer: peer, Number: number}
			if got, want := Home(id), key.Of(peer, number); got != want {
				t.Fatalf("P2301: Home of %v is %x, not %x", id, got, want)
			}
			for _, n := range numbers {
				if got, want := Key(id, n, 5), key.Of(peer, number, n, 5); got != want {
					t.Fatalf("P2301: Key of %v, %d, 5 is %x, not %x", id, n, got, want)
				}
				if got, want := Key(id, 5, n), key.Of(peer, number, 5, n); got != want {
					t.Fatalf("P2301: Key of %v, 5, %d is %x, not %x", id, n, got, want)
				}
			}
		}
	}
	c := chance(2301)
	for range 2000 {
		a, b, d, e := c.number(1e6), c.number(1e6), c.number(1e6), c.number(1e6)
		if got, want := Key(api.Id{Peer: a, Number: b}, d, e), key.Of(a, b, d, e); got != want {
			t.Fatalf("P2301: Key of %d, %d, %d, %d is %x, not %x", a, b, d, e, got, want)
		}
	}
}

func TestP2301KeyTellsItsNumbersApart(t *testing.T) {
	seen := map[api.Key]string{}
	meet := func(name string, k api.Key) {
		if other, met := seen[k]; met {
			t.Errorf("P2301: %s and %s are one", other, name)
		}
		seen[k] = name
	}
	for peer := 1; peer < 6; peer++ {
		for number := 1; number < 6; number++ {
			id := api.Id{Peer: peer, Number: number}
			meet(fmt.Sprintf("Home of %v", id), Home(id))
			for block := range 5 {
				for esi := range 5 {
					meet(fmt.Sprintf("Key of %v, %d, %d", id, block, esi), Key(id, block, esi))
				}
			}
		}
	}
}

func TestP2301PeerOfNobody(t *testing.T) {
	for _, k := range []api.Key{{}, key.Of(1), begun(0xFF, 0xFF)} {
		for _, l := range [][]int{nil, {}, make([]int, 0, 5), []int{4, 5}[:0]} {
			if got, is := Peer(k, l...); got != 0 || is {
				t.Errorf("P2301: Peer of nobody is %d, %v", got, is)
			}
		}
		if got, is := Peer(k); got != 0 || is {
			t.Errorf("P2301: Peer of nobody is %d, %v", got, is)
		}
	}
}

func TestP2301PeerOfOne(t *testing.T) {
	for _, peer := range odd {
		for _, k := range []api.Key{{}, key.Of(1), key.Of(peer), begun(0x80), begun(0xFF, 0xFF)} {
			isPeer(t, "P2301", "of one", k, peer, peer)
		}
	}
}

// The keys of the peers 0, 1, 2, 3, 5, 7, 9 and 11 begin with the bytes 00, 6d, 56, 13, 40, 4a, 2a and cc.
func TestP2301PeerByHand(t *testing.T) {
	all := []int{0, 1, 2, 3, 5, 7, 9, 11}
	for _, x := range []struct {
		k    api.Key
		want int
		l    []int
	}{
		{begun(), 0, all},
		{begun(0x0F), 0, all}, // 0f to 00, 1c to 13
		{begun(0x10), 3, all},
		{begun(0x20), 9, all},
		{begun(0x42), 5, all}, // 02 to 40, 08 to 4a
		{begun(0x48), 7, all}, // 08 to 40, 02 to 4a
		{begun(0x50), 2, all},
		{begun(0x60), 1, all},
		{begun(0x7F), 1, all},
		{begun(0x80), 11, all},
		{begun(0xFF), 11, all},
		// The nearest is not that whose key is the next below or above: 7f is to 80 as far as can be.
		{begun(0x7F), 0, []int{0, 11}},
		{begun(0x80), 11, []int{1, 11}},
		{begun(0x3F), 9, []int{5, 9}},
		{begun(0x3F), 3, []int{3, 5}},
		{begun(), 3, []int{1, 2, 3, 11}},
		{begun(), 5, []int{1, 2, 5, 7, 11}},
		{begun(0xFF), 1, []int{1, 2, 7}},
		{key.Of(7), 2, []int{1, 2, 11}}, // 27, 1c, 86
		{key.Of(7), 7, []int{1, 2, 7, 11}},
		{key.Of(2, 3), 1, []int{1, 2, 7, 11}}, // 37 to 6d: 5a, to 56: 61, to 4a: 7d, to cc: fb
		{key.Of(2, 3), 9, all},                // 37 to 2a: 1d, to 13: 24
	} {
		isPeer(t, "P2301", "by hand", x.k, x.want, x.l...)
		turned := slices.Clone(x.l)
		slices.Reverse(turned)
		isPeer(t, "P2301", "by hand, turned round", x.k, x.want, turned...)
	}
}

// twins are pairs of peers whose keys begin with the same 16 bits at least.
func twins() [][2]int {
	l := make([]int, 5000)
	for i := range l {
		l[i] = i
	}
	digits := func(peer int) string {
		k := key.Of(peer)
		return string(k[:])
	}
	slices.SortFunc(l, func(a, b int) int { return strings.Compare(digits(a), digits(b)) })
	var pairs [][2]int
	for i := 1; i < len(l); i++ {
		if digits(l[i-1])[:2] == digits(l[i])[:2] {
			pairs = append(pairs, [2]int{l[i-1], l[i]})
		}
	}
	return pairs
}

func TestP2301PeerOfTwoThatTheirLaterBytesTellApart(t *testing.T) {
	pairs := twins()
	if len(pairs) < 100 {
		t.Fatalf("there are but %d pairs", len(pairs))
	}
	c := chance(16)
	for _, pair := range pairs {
		a, b := pair[0], pair[1]
		for _, k := range []api.Key{key.Of(a), key.Of(b), {}, c.key(), c.key()} {
			l := []int{a, b}
			isPeer(t, "P2301", "of two with much in common", k, l[closest(k, l)], a, b)
			isPeer(t, "P2301", "of two with much in common", k, l[closest(k, l)], b, a)
		}
	}
}

func TestP2301PeerNearestToItsOwnKey(t *testing.T) {
	var l []int
	for n := range 60 {
		l = append(l, 3*n-20)
	}
	for _, peer := range l {
		isPeer(t, "P2301", "of its own key", key.Of(peer), peer, l...)
	}
}

func TestP2301PeerThatStandsSeveralTimes(t *testing.T) {
	isPeer(t, "P2301", "one, several times", key.Of(3), 5, 5, 5, 5)
	isPeer(t, "P2301", "the nearest several times", begun(0x48), 7, 7, 1, 7, 2, 7)
	isPeer(t, "P2301", "another one several times", begun(0x48), 7, 1, 1, 7, 2, 1, 2)
}

func TestP2301PeerOfSeveralThatAreAsNear(t *testing.T) {
	same := []int{7, 7 + whole, 7 - whole, 7 + 3*whole}
	for _, first := range same {
		l := []int{1, first}
		l = append(append(l, same...), 2, 11)
		for _, k := range []api.Key{begun(0x48), key.Of(7), begun(0x4A)} {
			isPeer(t, "P2301", "several as near: the first", k, first, l...)
			isPeer(t, "P2301", "several as near: the first of all", k, first, l[1:]...)
		}
		isPeer(t, "P2301", "several as near, and farther", begun(0xC0), 11, l...)
	}
	isPeer(t, "P2301", "0 and the least", key.Of(0), 0, 0, math.MinInt)
	isPeer(t, "P2301", "the least and 0", key.Of(0), math.MinInt, math.MinInt, 0)
	isPeer(t, "P2301", "-1 and the greatest", key.Of(9), -1, -1, math.MaxInt)
	isPeer(t, "P2301", "the greatest and -1", key.Of(9), math.MaxInt, math.MaxInt, -1)
}

// orders calls f with l in each order.
func orders(l []int, f func([]int)) {
	if len(l) == 0 {
		f(nil)
	}
	for i := range l {
		rest := slices.Delete(slices.Clone(l), i, i+1)
		orders(rest, func(o []int) { f(append([]int{l[i]}, o...)) })
	}
}

func TestP2301PeerInWhicheverOrder(t *testing.T) {
	for _, x := range []struct {
		k    api.Key
		want int
	}{
		{begun(0x0F), 0},
		{begun(0x42), 5},
		{begun(0x48), 7},
		{begun(0xF0), 11},
		{key.Of(2, 3), 0}, // 37 to 00: 37, to 6d: 5a
	} {
		orders([]int{0, 1, 5, 7, 11}, func(l []int) { isPeer(t, "P2301", "in an order", x.k, x.want, l...) })
	}
}

func TestP2301PeerByItsDefinition(t *testing.T) {
	c := chance(7)
	for range 3000 {
		l := c.peers(12)
		k := c.key()
		if c.below(2) == 0 {
			k = key.Of(c.below(20), c.below(20))
		}
		if len(l) > 0 {
			isPeer(t, "P2301", "drawn", k, l[closest(k, l)], l...)
		}
	}
	for _, k := range []api.Key{{}, key.Of(5, 5), begun(0xFF)} {
		many := make([]int, 3000)
		for i := range many {
			many[i] = c.below(2000) - 500
		}
		isPeer(t, "P2301", "many", k, many[closest(k, many)], many...)
	}
}

// The keys of the symbols 0 to 5 of block 0 of object 3 of peer 2 begin with f5, 3a, b3, 23, 71 and 29, those of block 1
// with 9b, 91, 88, a3, 83 and ee; its home begins with 37.
func TestP2301SpreadByHand(t *testing.T) {
	var l []api.Record
	for block := range 2 {
		for esi := range 6 {
			l = append(l, symbol(block, esi))
		}
	}
	l = append(l, tombstone(2, 3))
	// Peers whose keys begin with 13, 2a, 6d and cc.
	isSpread(t, "P2301", "by hand", l, []int{3, 9, 1, 11},
		nil, []api.Record{l[1], l[3], l[5], l[12]}, []api.Record{l[4]}, []api.Record{l[0], l[2], l[6], l[7], l[8], l[9], l[10], l[11]})
	isSpread(t, "P2301", "by hand, turned round", l, []int{11, 1, 9, 3},
		[]api.Record{l[0], l[2], l[6], l[7], l[8], l[9], l[10], l[11]}, []api.Record{l[4]}, []api.Record{l[1], l[3], l[5], l[12]}, nil)
	// 6d, 56, 4a and cc: to these 3a, 23, 71, 29 and 37 lie as they do to 6d.
	isSpread(t, "P2301", "by hand, others", l, []int{2, 1, 7, 11},
		nil, []api.Record{l[1], l[3], l[4], l[5], l[12]}, nil, []api.Record{l[0], l[2], l[6], l[7], l[8], l[9], l[10], l[11]})
	isSpread(t, "P2301", "by hand, one", l, []int{4}, l)
}

func TestP2301SpreadOverNobody(t *testing.T) {
	for _, records := range [][]api.Record{nil, {}, {symbol(0, 0)}, {symbol(0, 0), tombstone(1, 1), {}}} {
		for _, l := range [][]int{nil, {}, []int{4}[:0]} {
			if got := Spread(records, l...); len(got) != 0 {
				t.Errorf("P2301: Spread of %v over nobody is %v", records, got)
			}
		}
		if got := Spread(records); len(got) != 0 {
			t.Errorf("P2301: Spread of %v over nobody is %v", records, got)
		}
	}
}

func TestP2301SpreadOfNoRecords(t *testing.T) {
	for _, records := range [][]api.Record{nil, {}, make([]api.Record, 0, 3)} {
		for n := range 9 {
			isSpread(t, "P2301", "no records", records, odd[:n], make([][]api.Record, n)...)
			isSpread(t, "P2301", "no records", records, make([]int, n), make([][]api.Record, n)...)
		}
	}
}

func TestP2301SpreadOverPeersThatStandSeveralTimes(t *testing.T) {
	l := []api.Record{symbol(0, 0), symbol(0, 1), symbol(0, 4), tombstone(2, 3)}
	isSpread(t, "P2301", "one, several times", l, []int{4, 4, 4}, l, nil, nil)
	near, far := []api.Record{l[1], l[2], l[3]}, []api.Record{l[0]}
	isSpread(t, "P2301", "two, several times", l, []int{1, 11, 1, 1, 11}, near, far, nil, nil, nil)
	isSpread(t, "P2301", "two, several times", l, []int{11, 11, 1, 11, 1}, far, nil, near, nil, nil)
	isSpread(t, "P2301", "with their keys the same", l, []int{1 + whole, 1, 11, 11 - whole, 1 + whole}, near, nil, far, nil, nil)
	isSpread(t, "P2301", "with their keys the same", l, []int{1, 1 + whole, 11 - whole, 11, 1 + whole}, near, nil, far, nil, nil)
	isSpread(t, "P2301", "the least and 0", l, []int{math.MinInt, 0, whole}, l, nil, nil)
}

func TestP2301SpreadInTheGivenOrder(t *testing.T) {
	var l []api.Record
	for i := range 40 {
		r := symbol(0, i*17%40)
		// It tells where the record stands.
		r.Until = i
		l = append(l, r)
	}
	over := []int{3, 9, 1, 11, 2, 7}
	want := Spread(l, over...)
	for i, list := range want {
		for k := 1; k < len(list); k++ {
			if list[k-1].Until >= list[k].Until {
				t.Errorf("P2301: of peer %d record %d stands ahead of record %d", over[i], list[k-1].Until, list[k].Until)
			}
		}
		slices.Reverse(want[i])
	}
	slices.Reverse(l)
	isSpread(t, "P2301", "records turned round", l, over, want...)
}

func TestP2301SpreadOfRecordsThatAreOne(t *testing.T) {
	l := []api.Record{symbol(0, 1), symbol(0, 0), symbol(0, 1), tombstone(2, 3), symbol(0, 1), symbol(0, 0), tombstone(2, 3)}
	isSpread(t, "P2301", "each as often as it is given", l, []int{1, 11},
		[]api.Record{l[0], l[2], l[3], l[4], l[6]}, []api.Record{l[1], l[5]})
}

func TestP2301SpreadOfTombstones(t *testing.T) {
	over := []int{0, 1, 2, 3, 5, 7, 9, 11}
	for peer := range 6 {
		for number := range 6 {
			home, _ := Peer(Home(api.Id{Peer: peer, Number: number}), over...)
			want := make([][]api.Record, len(over))
			i := slices.Index(over, home)
			var l []api.Record
			for _, n := range append([]int{3, 40}, odd...) {
				// None of its other fields turns where a tombstone lies.
				r := tombstone(peer, number)
				r.Block, r.Esi = n, n/2
				l = append(l, r)
				r.Block, r.Esi, r.Until = 0, n, n
				r.Shape, r.Data = api.Shape{Bytes: n, Size: 2, Most: n}, []byte{1, 2}
				l = append(l, r)
			}
			want[i] = l
			isSpread(t, "P2301", "tombstones", l, over, want...)
		}
	}
}

func TestP2301SpreadOfSymbolAndTombstoneApart(t *testing.T) {
	// Block 0's symbol 0 lies with 11, the home of its object with 1.
	alive := symbol(0, 0)
	gone := alive
	gone.Gone = true
	isSpread(t, "P2301", "Gone alone tells them apart", []api.Record{alive, gone}, []int{1, 11}, []api.Record{gone}, []api.Record{alive})
}

func TestP2301SpreadOfRecordsThatAreNotRight(t *testing.T) {
	for _, block := range odd {
		for _, esi := range odd {
			r := api.Record{Id: api.Id{Peer: esi, Number: block}, Shape: api.Shape{Bytes: block, Size: esi, Most: -1}, Block: block, Esi: esi, Until: -block, Data: []byte{1, 2, 3}}
			gone := r
			gone.Gone = true
			for _, wrong := range []api.Record{r, gone, {Id: r.Id, Block: block}, {Id: r.Id, Gone: true, Esi: esi, Until: -1}} {
				if record.Right(wrong) {
					t.Fatalf("%v is Right", wrong)
				}
				l := []api.Record{wrong, symbol(0, 0), wrong}
				isSpread(t, "P2301", "not Right", l, []int{5, 3, 0, 11, 9}, spread(l, []int{5, 3, 0, 11, 9})...)
			}
		}
	}
	isSpread(t, "P2301", "all 0", []api.Record{{}}, []int{1, 0, 2}, nil, []api.Record{{}}, nil)
}

func TestP2301SpreadEachFieldStands(t *testing.T) {
	r := api.Record{Id: api.Id{Peer: 4, Number: 5}, Shape: api.Shape{Bytes: 6, Size: 7, Most: 8}, Block: 9, Esi: 10, Gone: true, Until: 11, Data: []byte{12, 13}}
	isSpread(t, "P2301", "each field", []api.Record{r}, []int{1}, []api.Record{r})
	r.Gone = false
	isSpread(t, "P2301", "each field", []api.Record{r}, []int{1}, []api.Record{r})
}

func TestP2301SpreadOfAnObject(t *testing.T) {
	data := make([]byte, 300)
	for i := range data {
		data[i] = byte(i * i)
	}
	o, err := object.New(api.Shape{Bytes: 300, Size: 6, Most: 9}, data)
	if err != api.OK {
		t.Fatal(err)
	}
	id := api.Id{Peer: 6, Number: 1}
	all := o.Records(id, 4, 90)
	over := []int{6, 0, 3, 8, 2}
	var back []api.Record
	for i, list := range Spread(all, over...) {
		for _, r := range list {
			if lies, is := Peer(Key(id, r.Block, r.Esi), over...); lies != over[i] || !is {
				t.Errorf("P2301: the symbol %d of block %d lies with %d, not %d", r.Esi, r.Block, over[i], lies)
			}
		}
		back = append(back, list...)
	}
	if len(back) != len(all) {
		t.Errorf("P2301: of %d records Spread has %d", len(all), len(back))
	}
	if got, err := object.Decode(o.Shape, back...); err != api.OK || !slices.Equal(got, data) {
		t.Errorf("P2301: the records of all peers decode to %v, %d", got, err)
	}
}

func TestP2301SpreadEachRecordInOneList(t *testing.T) {
	c := chance(99)
	for range 200 {
		l, over := c.records(30), append(c.peers(8), 4)
		for i := range l {
			l[i].Until = i
		}
		var seen []int
		for _, list := range Spread(l, over...) {
			for _, r := range list {
				seen = append(seen, r.Until)
				if !sameRecord(r, l[r.Until]) {
					t.Fatalf("P2301: the record %v came out as %v", l[r.Until], r)
				}
			}
		}
		slices.Sort(seen)
		for i, n := range seen {
			if i != n {
				t.Fatalf("P2301: Spread of %d records over %d has these of them: %d", len(l), over, seen)
			}
		}
		if len(seen) != len(l) {
			t.Fatalf("P2301: Spread of %d records over %d has %d", len(l), over, len(seen))
		}
	}
}

func TestP2301SpreadByKeyHomeAndPeer(t *testing.T) {
	c := chance(41)
	for range 200 {
		l, over := c.records(25), append(c.peers(7), c.below(9))
		got := Spread(l, over...)
		next := make([]int, len(over))
		for _, r := range l {
			k := Key(r.Id, r.Block, r.Esi)
			if r.Gone {
				k = Home(r.Id)
			}
			peer, _ := Peer(k, over...)
			i := slices.Index(over, peer)
			if next[i] >= len(got[i]) || !sameRecord(got[i][next[i]], r) {
				t.Fatalf("P2301: Spread over %d: %v is not the record %d of place %d: %v", over, r, next[i], i, got)
			}
			next[i]++
		}
	}
}

func TestP2301SpreadByItsDefinition(t *testing.T) {
	c := chance(23)
	for range 400 {
		l, over := c.records(15), c.peers(9)
		isSpread(t, "P2301", "drawn", l, over, spread(l, over)...)
	}
	l := make([]api.Record, 500)
	for i := range l {
		l[i] = c.record()
	}
	over := make([]int, 40)
	for i := range over {
		over[i] = c.below(50)
	}
	want := make([][]api.Record, len(over))
	for _, r := range l {
		i := closest(lies(r), over)
		want[i] = append(want[i], r)
	}
	isSpread(t, "P2301", "many", l, over, want...)
}

// roomy is l with spare room, which is filled.
func roomy(l []api.Record) []api.Record {
	room := append(deep(l), symbol(1, 7), symbol(1, 8))
	for i := range room {
		data := append(slices.Clone(room[i].Data), 201, 202, 203)
		room[i].Data = data[:len(data)-3]
	}
	return room[:len(l)]
}

// all is all that there is of l, its spare room and that of each record's Data too.
func all(l []api.Record) []api.Record {
	out := slices.Clone(l[:cap(l)])
	for i := range out {
		out[i].Data = slices.Clone(out[i].Data[:cap(out[i].Data)])
	}
	return out
}

func TestP2302HandedInStaysAsItIs(t *testing.T) {
	c := chance(2302)
	for range 100 {
		l := roomy(c.records(12))
		over := append(c.peers(8), 77, 88)
		whom := over[:len(over)-2]
		before, overBefore := all(l), slices.Clone(over)
		want := spread(deep(l), slices.Clone(whom))
		got := Spread(l, whom...)
		Peer(key.Of(3), whom...)
		if !sameRecords(all(l), before) {
			t.Errorf("P2302: behind Spread the records are %v, not %v", all(l), before)
		}
		if !slices.Equal(over, overBefore) {
			t.Errorf("P2302: behind Spread and Peer the peers are %d, not %d", over, overBefore)
		}
		if !sameLists(got, want) {
			t.Errorf("P2302: with spare room Spread is %v, not %v", got, want)
		}
	}
}

// turn turns all that there is of l.
func turn(l []api.Record) {
	for i := range l {
		for k := range l[i].Data {
			l[i].Data[k] ^= 0xFF
		}
		l[i].Id.Peer += 5
		l[i].Esi++
		l[i].Until = -1
		l[i].Gone = !l[i].Gone
	}
}

func TestP2302HandedInIsNotKept(t *testing.T) {
	c := chance(5)
	for range 100 {
		l, over := deep(c.records(12)), c.peers(8)
		got := Spread(l, over...)
		want := deepLists(got)
		turn(l)
		for i := range over {
			over[i] += 3
		}
		if !sameLists(got, want) {
			t.Errorf("P2302: with the records turned what was told is %v, not %v", got, want)
		}
		isSpread(t, "P2302", "of the records as they are now", l, over, spread(l, over)...)
	}
}

func TestP2302AnswersAreNewMemory(t *testing.T) {
	c := chance(6)
	for range 100 {
		l, over := deep(c.records(12)), c.peers(8)
		before := deep(l)
		first := Spread(l, over...)
		second := Spread(l, over...)
		want := deepLists(first)
		for i := range first {
			turn(first[i])
			first[i] = append(first[i], api.Record{Esi: 9})
		}
		if !sameRecords(l, before) {
			t.Errorf("P2302: with an answer turned the records are %v, not %v", l, before)
		}
		if !sameLists(second, want) {
			t.Errorf("P2302: with an answer turned another one is %v, not %v", second, want)
		}
		isSpread(t, "P2302", "with an answer turned", l, over, want...)
	}
}

func TestP2302ListsShareNothing(t *testing.T) {
	// Records that share one Data, and one that stands several times.
	data := []byte{1, 2, 3, 4, 5, 6}
	var l []api.Record
	for i := range 12 {
		r := symbol(0, i%6)
		r.Data = data[i%3 : i%3+3]
		l = append(l, r)
	}
	over := []int{3, 9, 1, 11, 9}
	got := Spread(l, over...)
	want := deepLists(got)
	for i := range got {
		for k := range got[i] {
			got[i][k].Data[0] = 99
			got[i][k].Data = append(got[i][k].Data, 98)
			got[i][k].Data = got[i][k].Data[:3]
			want[i][k].Data[0] = 99
			if !sameLists(got, want) {
				t.Fatalf("P2302: with the Data of record %d of list %d turned all is %v, not %v", k, i, got, want)
			}
		}
		// More than the lists behind it could have room for.
		for k := range 2 * len(l) {
			got[i] = append(got[i], symbol(i, k))
			want[i] = append(want[i], symbol(i, k))
		}
		if !sameLists(got, want) {
			t.Fatalf("P2302: with more at the end of list %d all is %v, not %v", i, got, want)
		}
	}
	if !slices.Equal(data, []byte{1, 2, 3, 4, 5, 6}) {
		t.Errorf("P2302: the Data that was handed in is %v", data)
	}
	keyOf, home := Key(api.Id{Peer: 2, Number: 3}, 0, 0), Home(api.Id{Peer: 2, Number: 3})
	keyOf[0]++
	home[19]++
	if Key(api.Id{Peer: 2, Number: 3}, 0, 0) != key.Of(2, 3, 0, 0) || Home(api.Id{Peer: 2, Number: 3}) != key.Of(2, 3) {
		t.Error("P2302: a key that was turned is answered again")
	}
}

// told is all that is answered of one case.
type told struct {
	key, home api.Key
	peer      int
	is        bool
	lists     [][]api.Record
}

func sameTold(a, b told) bool {
	return a.key == b.key && a.home == b.home && a.peer == b.peer && a.is == b.is && sameLists(a.lists, b.lists)
}

// tell asks all calls of case n.
func tell(n int) told {
	c := chance(n)
	id := api.Id{Peer: c.number(9), Number: c.number(9)}
	x := told{key: Key(id, c.number(5), c.number(50)), home: Home(id)}
	l := c.peers(8)
	x.peer, x.is = Peer(x.home, l...)
	x.lists = Spread(c.records(10), l...)
	return x
}

func TestP2302AnswersHangOnArgumentsAlone(t *testing.T) {
	const cases = 200
	var first []told
	for n := range cases {
		first = append(first, tell(n))
	}
	for n := cases - 1; n >= 0; n-- {
		if got := tell(n); !sameTold(got, first[n]) {
			t.Errorf("P2302: asked again, and backward, case %d is %v, not %v", n, got, first[n])
		}
	}
}

func TestP2302AskedAtOnce(t *testing.T) {
	l, over := deep((new(chance)).records(20)), []int{3, 9, 1, 11, 9, 2}
	wantLists := spread(l, over)
	var want []told
	for n := range 40 {
		want = append(want, tell(n))
	}
	var group sync.WaitGroup
	for range 8 {
		group.Go(func() {
			for n := range want {
				if got := tell(n); !sameTold(got, want[n]) {
					t.Errorf("P2302: asked at once, case %d is %v, not %v", n, got, want[n])
				}
				if got := Spread(l, over...); !sameLists(got, wantLists) {
					t.Errorf("P2302: asked at once, Spread is %v, not %v", got, wantLists)
				}
			}
		})
	}
	group.Wait()
}
