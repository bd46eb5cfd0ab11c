package mint

import (
	"math"
	"slices"
	"sync"
	"testing"

	"fountain/api"
	"fountain/block"
	"fountain/decode"
	"fountain/object"
	"fountain/random"
	"fountain/record"
	"fountain/rows"
	"fountain/split"
)

const (
	lastEsi = api.MaxEsi - 1
	// Of a number that is whole more the low 32 bits are the same.
	whole = 1 << 32
)

// odd are numbers at the ends of their type, and about 0.
var odd = []int{math.MinInt, math.MinInt + 1, -whole, math.MinInt32, -256, -2, -1, 0, 1, 2, 255, 256, lastEsi, math.MaxInt32, math.MaxUint32, whole, math.MaxInt - 1, math.MaxInt}

// wrongEsis are numbers that no symbol has.
var wrongEsis = []int{-1, -2, -lastEsi, -api.MaxEsi, api.MaxEsi, api.MaxEsi + 1, 2 * api.MaxEsi, whole, -whole, whole + 1, math.MinInt, math.MinInt + 1, math.MaxInt - 1, math.MaxInt}

// wrongBlocks are numbers of no block, of blocks that there are so many.
func wrongBlocks(blocks int) []int {
	return []int{blocks, blocks + 1, 2 * blocks, -1, -2, -blocks, 1 << 16, whole, -whole, whole - blocks, math.MinInt, math.MinInt + 1, math.MaxInt - 1, math.MaxInt}
}

// wrongShapes are some of which one number is wrong, or all are.
func wrongShapes() []api.Shape {
	l := []api.Shape{{}, {Bytes: api.MaxObject + 1, Size: api.MaxSize + 1, Most: api.MaxK + 1}, {Bytes: -5, Size: -2, Most: -2}}
	for _, n := range []int{0, -1, whole + 1, math.MinInt, math.MaxInt} {
		l = append(l, api.Shape{Bytes: n, Size: 2, Most: 2}, api.Shape{Bytes: 5, Size: n, Most: 2}, api.Shape{Bytes: 5, Size: 2, Most: n})
	}
	return append(l, api.Shape{Bytes: api.MaxObject + 1, Size: 2, Most: 2}, api.Shape{Bytes: 5, Size: api.MaxSize + 1, Most: 2}, api.Shape{Bytes: 5, Size: 2, Most: api.MaxK + 1})
}

// ours is the id of the object that is asked about.
var ours = api.Id{Peer: 2, Number: 3}

// otherIds are ids that are not ours, some of them nearly.
var otherIds = []api.Id{
	{}, {Peer: 2}, {Number: 3}, {Peer: 3, Number: 2}, {Peer: 2, Number: 4}, {Peer: 1, Number: 3}, {Peer: -2, Number: -3}, {Peer: 2, Number: -3},
	{Peer: 2 + whole, Number: 3}, {Peer: 2, Number: 3 + whole}, {Peer: 2 - whole, Number: 3 - whole}, {Peer: math.MaxInt, Number: math.MinInt},
}

// shapes are right ones, of one block and of many.
var shapes = []api.Shape{
	{Bytes: 5, Size: 2, Most: 2},
	{Bytes: 6, Size: 2, Most: 2},
	{Bytes: 1, Size: 1, Most: 1},
	{Bytes: 1, Size: api.MaxSize, Most: api.MaxK},
	{Bytes: 7, Size: 3, Most: 9},
	{Bytes: 40, Size: 4, Most: 10},
	{Bytes: 41, Size: 4, Most: 10},
	{Bytes: 22, Size: 1, Most: 5},
	{Bytes: 30, Size: 1, Most: 1},
	{Bytes: api.MaxSize * api.MaxK, Size: api.MaxSize, Most: api.MaxK},
	{Bytes: api.MaxObject, Size: api.MaxSize, Most: api.MaxK},
}

// chance makes numbers that follow no rule that shows.
type chance uint32

func (c *chance) next(below int) int {
	*c = *c*1664525 + 1013904223
	return int(*c>>7) % below
}

func (c *chance) bytes(n int) []byte {
	l := make([]byte, n)
	for i := range l {
		l[i] = byte(c.next(256))
	}
	return l
}

func (c *chance) shape() api.Shape {
	return api.Shape{Bytes: 1 + c.next(60), Size: 1 + c.next(8), Most: 1 + c.next(9)}
}

// esi is one of a block, most often among the first ones.
func (c *chance) esi() int {
	if c.next(3) == 0 {
		return c.next(api.MaxEsi)
	}
	return c.next(14)
}

// turned has the records in another order.
func (c *chance) turned(l []api.Record) []api.Record {
	l = slices.Clone(l)
	for i := range l {
		at := i + c.next(len(l)-i)
		l[i], l[at] = l[at], l[i]
	}
	return l
}

func sameRecord(a, b api.Record) bool {
	return a.Id == b.Id && a.Shape == b.Shape && a.Block == b.Block && a.Esi == b.Esi && a.Gone == b.Gone && a.Until == b.Until && slices.Equal(a.Data, b.Data)
}

func same(a, b []api.Record) bool {
	return slices.EqualFunc(a, b, sameRecord)
}

// cloned is a copy that shares nothing with l.
func cloned(l []api.Record) []api.Record {
	l = slices.Clone(l)
	for i := range l {
		l[i].Data = slices.Clone(l[i].Data)
	}
	return l
}

// without is l but for record i.
func without(l []api.Record, i int) []api.Record {
	return slices.Delete(slices.Clone(l), i, i+1)
}

// made is an object that can be made.
func made(t *testing.T, s api.Shape, data []byte) *object.Object {
	t.Helper()
	o, err := object.New(s, data)
	if err != api.OK {
		t.Fatalf("object.New of %v: error %d", s, err)
	}
	return o
}

// symbol is the record of an object's symbol.
func symbol(t *testing.T, o *object.Object, block, esi int) api.Record {
	t.Helper()
	data, err := o.Symbol(block, esi)
	if err != api.OK {
		t.Fatalf("Symbol(%d, %d) of %v: error %d", block, esi, o.Shape, err)
	}
	return api.Record{Id: ours, Shape: o.Shape, Block: block, Esi: esi, Until: 70, Data: data}
}

// from are records of so many more symbols of each block than it has source ones, from a number on.
func from(t *testing.T, o *object.Object, first, more int) []api.Record {
	t.Helper()
	var l []api.Record
	for b := range split.Blocks(o.Shape) {
		for i := range split.K(o.Shape, b) + more {
			l = append(l, symbol(t, o, b, first+i))
		}
	}
	return l
}

// sources are records of an object's source symbols alone.
func sources(t *testing.T, o *object.Object) []api.Record {
	t.Helper()
	return from(t, o, 0, 0)
}

// isFresh asks Fresh, twice.
func isFresh(t *testing.T, name string, want api.Record, l ...api.Record) {
	t.Helper()
	for range 2 {
		got, err := Fresh(want.Id, want.Shape, want.Block, want.Esi, want.Until, l...)
		if err != api.OK || !sameRecord(got, want) {
			t.Fatalf("%s: Fresh of %d records: %v, error %d; want %v", name, len(l), got, err, want)
		}
	}
}

// isNone tells where Fresh answers anything but the error.
func isNone(t *testing.T, name string, want api.Errno, id api.Id, s api.Shape, block, esi int, l ...api.Record) {
	t.Helper()
	for range 2 {
		got, err := Fresh(id, s, block, esi, 9, l...)
		if err != want || !sameRecord(got, api.Record{}) {
			t.Fatalf("%s: Fresh of %v, %v, %d, %d and %d records: %v, error %d; want none, error %d", name, id, s, block, esi, len(l), got, err, want)
		}
	}
}

// Worked out beside the program.
var knownEsis = []struct{ peer, n, esi int }{
	{0, 1, 16573858},
	{1, 0, 16078685},
	{1, 1, 1878602},
	{0, 2, 16307046},
	{2, 0, 5703797},
	{2, 3, 1591042},
	{3, 2, 15638141},
	{11, 1, 14238124},
	{11, 2, 4050211},
	{math.MaxInt32, math.MaxInt32, 9627193},
	// Below 0.
	{-1, 0, 8800996},
	{0, -1, 13929769},
	{-1, -1, 14163870},
	{-2, -3, 13348387},
	{math.MinInt32, math.MinInt32, 15189818},
	// More than 32 bits.
	{math.MaxUint32, 1, 605573},
	{1, math.MaxUint32, 15494760},
	{whole + 1, 1, 1878602},
	{1, whole + 1, 1878602},
	{5 - whole, 7 - whole, 183156},
	{math.MaxInt, math.MaxInt, 14163870},
	{math.MaxInt, math.MinInt, 8800996},
	{math.MinInt, math.MaxInt, 13929769},
	{math.MinInt + 1, math.MinInt + 2, 8851317},
	// The least ones, and the greatest ones.
	{0, 0, 40},
	{whole, whole, 40},
	{math.MinInt, math.MinInt, 40},
	{0, 2584080190, 41},
	{0, 709145266, lastEsi - 1},
	{0, 14269089, lastEsi},
	{0, 3383343639, 40},
	{1, 253004096, 40},
	{1, 267273185, lastEsi},
	{7, 3994645482, 40},
	{7, 4003485489, 41},
	{7, 3181917145, lastEsi},
	{math.MaxInt32, 2339935064, lastEsi},
	{math.MaxInt32, 3505034605, 40},
	// Of the greatest number of 32 bits.
	{0, 2365931492, 10279},
	{math.MaxInt32, 3743434348, 10279},
}

func TestP2401EsiOfKnownNumbers(t *testing.T) {
	for _, x := range knownEsis {
		for range 2 {
			if got := Esi(x.peer, x.n); got != x.esi {
				t.Errorf("P2401: Esi(%d, %d): %d, want %d", x.peer, x.n, got, x.esi)
			}
		}
	}
}

// low are the low 32 bits of a number, whatever its sign.
func low(n int) uint32 {
	var bits uint32
	for i := range 32 {
		// From the highest on: a shift of a number below 0 keeps its bits.
		bits = bits<<1 | uint32(n>>(31-i)&1)
	}
	return bits
}

func holdsEsi(t *testing.T, peer, n int) {
	t.Helper()
	got, want := Esi(peer, n), 40+random.Rand(low(peer), low(n), 1<<24-40)
	if got != want || got < api.MaxK || got >= api.MaxEsi {
		t.Fatalf("P2401: Esi(%d, %d): %d, want %d", peer, n, got, want)
	}
}

func TestP2401EsiByItsDefinition(t *testing.T) {
	numbers := append([]int{3, 7, 40, 41, 1000, -40, 3 * whole, 5 - 7*whole}, odd...)
	for _, peer := range numbers {
		for _, n := range numbers {
			holdsEsi(t, peer, n)
		}
	}
	for peer := range api.MaxPeers {
		for n := range 3000 {
			holdsEsi(t, peer, n)
		}
	}
	c := chance(1)
	for range 20000 {
		holdsEsi(t, c.next(1<<25)*c.next(1<<25)-c.next(1<<25), c.next(1<<25)-c.next(1<<25)*c.next(1<<25))
	}
}

func TestP2401EsiOfTheLowBitsAlone(t *testing.T) {
	for _, peer := range odd {
		for _, n := range odd {
			want := Esi(peer, n)
			for _, more := range []int{whole, -whole, 77 * whole, math.MinInt} {
				if a, b, both := Esi(peer+more, n), Esi(peer, n+more), Esi(peer+more, n+more); a != want || b != want || both != want {
					t.Errorf("P2401: Esi(%d, %d): %d; with %d more: %d, %d, %d", peer, n, want, more, a, b, both)
				}
			}
		}
	}
}

// No peer makes source symbols, nor often those that it or another one made.
func TestP2401EsisAreApart(t *testing.T) {
	met := map[int]int{}
	for peer := range api.MaxPeers {
		for n := range 500 {
			met[Esi(peer, n+1)]++
		}
	}
	if len(met) < api.MaxPeers*500-10 {
		t.Errorf("P2401: of %d peers, 500 each: only %d numbers", api.MaxPeers, len(met))
	}
	for esi := range api.MaxK {
		if met[esi] > 0 {
			t.Errorf("P2401: the source symbol %d is met", esi)
		}
	}
}

func TestP2401FreshOfNoRecords(t *testing.T) {
	isNone(t, "P2401: the example", api.ErrRank, api.Id{}, api.Shape{Bytes: 1, Size: 1, Most: 1}, 0, 0)
	for _, s := range shapes {
		for _, l := range [][]api.Record{nil, {}, make([]api.Record, 0, 9), five()[:0]} {
			isNone(t, "P2401: none", api.ErrRank, ours, s, 0, 50, l...)
			isNone(t, "P2401: none, of no block", api.ErrRank, ours, s, -1, 50, l...)
			isNone(t, "P2401: none, of no number", api.ErrRank, ours, s, 0, -1, l...)
		}
	}
	for _, s := range wrongShapes() {
		isNone(t, "P2401: none, of a wrong shape", api.ErrArg, ours, s, 0, 50)
	}
}

// five are the records of the source symbols of the bytes 3 40 77 115 154, made by hand.
func five() []api.Record {
	s := api.Shape{Bytes: 5, Size: 2, Most: 2}
	return []api.Record{
		{Id: ours, Shape: s, Block: 0, Esi: 0, Until: 4, Data: []byte{3, 40}},
		{Id: ours, Shape: s, Block: 0, Esi: 1, Until: 5, Data: []byte{77, 115}},
		{Id: ours, Shape: s, Block: 1, Esi: 0, Until: 6, Data: []byte{154, 0}},
	}
}

// Worked out beside the program.
var knownFive = []api.Record{
	{Id: ours, Shape: api.Shape{Bytes: 5, Size: 2, Most: 2}, Block: 0, Esi: lastEsi, Until: 8, Data: []byte{36, 115}},
	{Id: ours, Shape: api.Shape{Bytes: 5, Size: 2, Most: 2}, Block: 1, Esi: 1, Until: 0, Data: []byte{0, 0}},
	{Id: ours, Shape: api.Shape{Bytes: 5, Size: 2, Most: 2}, Block: 1, Esi: 2, Until: -9, Data: []byte{183, 0}},
}

func TestP2401FreshByHand(t *testing.T) {
	for _, want := range append(five(), knownFive...) {
		isFresh(t, "P2401: by hand", want, five()...)
		isFresh(t, "P2401: by hand, others", want, knownFive[0], five()[1], knownFive[2])
		isFresh(t, "P2401: by hand, and others", want, append(five(), knownFive...)...)
	}
}

// knownObjects are made of just enough records with Data of a rule, none of them source ones, worked out beside the program: from which number on they are, block by block.
var knownObjects = []struct {
	s    api.Shape
	from []int
	data []byte
}{
	{api.Shape{Bytes: 5, Size: 2, Most: 2}, []int{4, 3}, []byte{154, 114, 40, 148, 12}},
	{api.Shape{Bytes: 7, Size: 2, Most: 2}, []int{8, 3}, []byte{134, 184, 56, 146, 173, 33, 53}},
	{api.Shape{Bytes: 11, Size: 3, Most: 4}, []int{4}, []byte{238, 175, 140, 198, 59, 140, 249, 23, 217, 21, 23}},
	{api.Shape{Bytes: 23, Size: 4, Most: 3}, []int{4, 10}, []byte{101, 84, 51, 202, 170, 57, 207, 130, 40, 148, 0, 108, 26, 228, 100, 231, 191, 89, 206, 211, 16, 174, 168}},
}

func TestP2401FreshOfKnownObjects(t *testing.T) {
	for _, n := range knownObjects {
		var l []api.Record
		for b, from := range n.from {
			for i := range split.K(n.s, b) {
				data := make([]byte, n.s.Size)
				for at := range data {
					data[at] = byte(37*i + 101*at + 7*i*at + 3 + 50*b)
				}
				l = append(l, api.Record{Id: ours, Shape: n.s, Block: b, Esi: from + i, Data: data})
			}
		}
		// What stands behind the bytes in the last row is 0 anew, whatever was solved there.
		left := append(slices.Clone(n.data), make([]byte, n.s.Size)...)
		for b := range n.from {
			for esi := range split.K(n.s, b) {
				isFresh(t, "P2401: known", api.Record{Id: ours, Shape: n.s, Block: b, Esi: esi, Until: 1, Data: left[:n.s.Size]}, l...)
				left = left[n.s.Size:]
			}
		}
	}
}

// holdsObject holds Fresh of the records, for some symbols of each block, against the object's own.
func holdsObject(t *testing.T, name string, o *object.Object, l []api.Record) {
	t.Helper()
	blocks := split.Blocks(o.Shape)
	for b := range blocks {
		esis := []int{0, split.K(o.Shape, b) - 1, split.K(o.Shape, b), 41 + b, Esi(b, 1), lastEsi}
		// Of many blocks one number each will do.
		if blocks > 2 {
			esis = []int{esis[b%len(esis)]}
		}
		for _, esi := range esis {
			isFresh(t, name, symbol(t, o, b, esi), l...)
		}
	}
}

func TestP2401FreshOfAnObject(t *testing.T) {
	c := chance(2)
	for _, s := range shapes {
		o := made(t, s, c.bytes(s.Bytes))
		own, others := sources(t, o), from(t, o, Esi(3, 1)%1000+40, 6)
		holdsObject(t, "P2401: from source symbols", o, own)
		holdsObject(t, "P2401: from others alone", o, others)
		holdsObject(t, "P2401: from both", o, c.turned(append(own, others...)))
	}
	for _, s := range []api.Shape{{Bytes: api.MaxObject, Size: 1, Most: api.MaxK}, {Bytes: api.MaxObject, Size: 1, Most: 1}} {
		o := made(t, s, c.bytes(s.Bytes))
		last := split.Blocks(s) - 1
		isFresh(t, "P2401: of the most blocks", symbol(t, o, last, lastEsi), sources(t, o)...)
		isNone(t, "P2401: of the most blocks, one too few", api.ErrRank, ours, s, 0, 50, sources(t, o)[1:]...)
	}
}

// wrongs are records of this id that are wrong: of no number, with Data of another size, unlike others of their number.
func wrongs(id api.Id, s api.Shape) []api.Record {
	var l []api.Record
	for b := range split.Blocks(s) {
		for _, esi := range wrongEsis {
			l = append(l, api.Record{Id: id, Shape: s, Block: b, Esi: esi, Data: make([]byte, s.Size)})
		}
		for _, size := range []int{0, s.Size - 1, s.Size + 1} {
			l = append(l, api.Record{Id: id, Shape: s, Block: b, Esi: 3, Data: make([]byte, size)})
		}
		for esi := range split.K(s, b) + 2 {
			l = append(l, api.Record{Id: id, Shape: s, Block: b, Esi: esi, Data: slices.Repeat([]byte{byte(91 + esi)}, s.Size)})
		}
	}
	return l
}

func TestP2401FreshOfOtherIds(t *testing.T) {
	for _, s := range shapes[:5] {
		o := made(t, s, slices.Repeat([]byte{5, 6, 7}, s.Bytes)[:s.Bytes])
		l := sources(t, o)
		var all []api.Record
		for _, id := range otherIds {
			theirs := cloned(l)
			for i := range theirs {
				theirs[i].Id = id
			}
			isNone(t, "P2401: of another id", api.ErrRank, ours, s, 0, 50, theirs...)
			isNone(t, "P2401: of another id, asked turned round", api.ErrRank, id, s, 0, 50, l...)
			isNone(t, "P2401: wrong ones of another id", api.ErrRank, ours, s, 0, 50, wrongs(id, s)...)
			isNone(t, "P2401: wrong ones of another id, of no block", api.ErrRank, ours, s, -1, -1, wrongs(id, s)...)
			want := theirs[0]
			isFresh(t, "P2401: whatever id it is", want, append(wrongs(ours, s), theirs...)...)
			for i := range l {
				isNone(t, "P2401: one of another id in its place", api.ErrRank, ours, s, 0, 50, append(without(l, i), theirs...)...)
			}
			all = append(append(all, wrongs(id, s)...), theirs...)
		}
		for b := range split.Blocks(s) {
			want := symbol(t, o, b, 77)
			isFresh(t, "P2401: others ahead", want, slices.Concat(all, l)...)
			isFresh(t, "P2401: others behind", want, slices.Concat(l, all)...)
			isFresh(t, "P2401: others between", want, slices.Concat(l[:1], all, l[1:])...)
		}
	}
}

// passedOver are records of the id that don't count for the shape: of another shape, of no block, tombstones; some wrong besides.
func passedOver(s api.Shape) []api.Record {
	other := []api.Shape{{}, {Bytes: s.Bytes + 1, Size: s.Size, Most: s.Most}, {Bytes: s.Bytes, Size: s.Size + 1, Most: s.Most}, {Bytes: s.Bytes, Size: s.Size, Most: s.Most + 1}}
	var l []api.Record
	for i, r := range wrongs(ours, s) {
		r.Shape = other[i%len(other)]
		l = append(l, r)
		r.Shape, r.Gone = s, true
		l = append(l, r)
	}
	for i, b := range wrongBlocks(split.Blocks(s)) {
		for _, r := range wrongs(ours, s)[i%3:][:12] {
			r.Block = b
			l = append(l, r)
		}
	}
	return append(l, api.Record{Id: ours, Gone: true, Until: 99}, api.Record{Id: ours, Gone: true, Shape: s}, api.Record{Id: ours})
}

func TestP2401FreshOfRecordsThatDoNotCount(t *testing.T) {
	c := chance(3)
	for _, s := range shapes[:8] {
		o := made(t, s, c.bytes(s.Bytes))
		l, over := sources(t, o), passedOver(s)
		isNone(t, "P2401: none that count", api.ErrRank, ours, s, 0, 50, over...)
		want := symbol(t, o, split.Blocks(s)-1, 51)
		isFresh(t, "P2401: that don't count, ahead", want, slices.Concat(over, l)...)
		isFresh(t, "P2401: that don't count, behind", want, slices.Concat(l, over)...)
		isFresh(t, "P2401: that don't count, among them", want, c.turned(append(l, over...))...)
		for i := range l {
			isNone(t, "P2401: one too few, and some that don't count", api.ErrRank, ours, s, 0, 50, append(without(l, i), over...)...)
			for _, turn := range []func(r *api.Record){
				func(r *api.Record) { r.Gone = true },
				func(r *api.Record) { r.Block = -1 },
				func(r *api.Record) { r.Block = split.Blocks(s) },
				func(r *api.Record) { r.Shape.Bytes++ },
				func(r *api.Record) { r.Shape.Size++ },
				func(r *api.Record) { r.Shape.Most++ },
				func(r *api.Record) { r.Id.Peer++ },
				func(r *api.Record) { r.Id.Number++ },
			} {
				turned := cloned(l)
				turn(&turned[i])
				isNone(t, "P2401: one that was turned", api.ErrRank, ours, s, 0, 50, turned...)
			}
		}
	}
}

// What a record says of how long it is kept is not looked at, and what records of several shapes say neither.
func TestP2401FreshOfOneIdWithSeveralShapes(t *testing.T) {
	a, b := api.Shape{Bytes: 5, Size: 2, Most: 2}, api.Shape{Bytes: 9, Size: 3, Most: 2}
	o, p := made(t, a, []byte{1, 2, 3, 4, 5}), made(t, b, []byte{9, 8, 7, 6, 5, 4, 3, 2, 1})
	l := append(sources(t, o), sources(t, p)...)
	for i := range l {
		l[i].Until = odd[i%len(odd)]
	}
	for range 2 {
		isFresh(t, "P2401: of one shape", symbol(t, o, 1, 60), l...)
		isFresh(t, "P2401: of another shape", symbol(t, p, 1, 60), l...)
		slices.Reverse(l)
	}
}

func TestP2401FreshOfOneSymbolSeveralTimes(t *testing.T) {
	c := chance(4)
	for _, s := range shapes[:8] {
		o := made(t, s, c.bytes(s.Bytes))
		l := sources(t, o)
		want := symbol(t, o, 0, 99)
		isFresh(t, "P2401: each three times", want, slices.Concat(l, l, l)...)
		isFresh(t, "P2401: each three times, in another order", want, c.turned(slices.Concat(l, l, l))...)
		for i := range l {
			few := without(l, i)
			isNone(t, "P2401: one too few, the others several times", api.ErrRank, ours, s, 0, 99, slices.Concat(few, few, few)...)
			unlike := cloned(l[i : i+1])
			unlike[0].Data[0] ^= 1
			isFresh(t, "P2401: the first of unlike ones counts", want, slices.Concat(l, unlike)...)
			turned := made(t, s, solved(t, s, slices.Concat(few, unlike)))
			isFresh(t, "P2401: the first of unlike ones counts, whichever it is", symbol(t, turned, l[i].Block, 99), slices.Concat(unlike, l)...)
			unlike[0].Data = append(unlike[0].Data, 0)
			isNone(t, "P2401: one that doesn't count is of another size", api.ErrSize, ours, s, 0, 99, slices.Concat(l, unlike)...)
		}
		isNone(t, "P2401: more than enough, one of them turned", api.ErrRank, ours, s, 0, 99, append(unlike(l[0]), append(l[1:], from(t, o, 40, 5)...)...)...)
	}
}

// unlike is a record of its number, but with other Data.
func unlike(r api.Record) []api.Record {
	l := cloned([]api.Record{r})
	for i := range l[0].Data {
		l[0].Data[i] ^= 1
	}
	return l
}

// solved are the bytes of records that are enough.
func solved(t *testing.T, s api.Shape, l []api.Record) []byte {
	t.Helper()
	data, err := object.Decode(s, l...)
	if err != api.OK {
		t.Fatalf("Decode of %v: error %d", s, err)
	}
	return data
}

// All blocks must be had, whichever is asked.
func TestP2401FreshOfTooFew(t *testing.T) {
	c := chance(5)
	for _, s := range shapes[:9] {
		o := made(t, s, c.bytes(s.Bytes))
		l := sources(t, o)
		for i := range l {
			for b := range min(split.Blocks(s), 6) {
				isNone(t, "P2401: one too few", api.ErrRank, ours, s, b, 50, without(l, i)...)
				isNone(t, "P2401: one too few, of a source symbol", api.ErrRank, ours, s, b, 0, without(l, i)...)
			}
			// Of the other blocks there are more than enough.
			more := slices.DeleteFunc(from(t, o, 40, 9), func(r api.Record) bool { return r.Block == l[i].Block })
			isNone(t, "P2401: one too few in one block alone", api.ErrRank, ours, s, (l[i].Block+1)%split.Blocks(s), 50, append(without(l, i), more...)...)
		}
	}
}

func TestP2401FreshOfAWrongShape(t *testing.T) {
	l := five()
	for _, s := range wrongShapes() {
		theirs := cloned(l)
		for i := range theirs {
			theirs[i].Shape = s
		}
		for _, b := range []int{0, 1, -1, math.MaxInt} {
			for _, esi := range []int{0, 50, -1, api.MaxEsi} {
				isNone(t, "P2401: of a wrong shape", api.ErrArg, ours, s, b, esi, l...)
				isNone(t, "P2401: of a wrong shape, and its records", api.ErrArg, ours, s, b, esi, theirs...)
				isNone(t, "P2401: of a wrong shape, another id", api.ErrArg, api.Id{}, s, b, esi, l...)
			}
		}
	}
}

func TestP2401FreshOfNoBlockOrNumber(t *testing.T) {
	c := chance(6)
	for _, s := range shapes {
		o := made(t, s, c.bytes(s.Bytes))
		l := sources(t, o)
		blocks := split.Blocks(s)
		for _, b := range wrongBlocks(blocks) {
			isNone(t, "P2401: of no block", api.ErrArg, ours, s, b, 50, l...)
			isNone(t, "P2401: of no block, no number", api.ErrArg, ours, s, b, -1, l...)
		}
		for i, esi := range wrongEsis {
			isNone(t, "P2401: of no number", api.ErrArg, ours, s, i%blocks, esi, l...)
		}
		for _, esi := range []int{0, lastEsi} {
			isFresh(t, "P2401: the first block", symbol(t, o, 0, esi), l...)
			isFresh(t, "P2401: the last block", symbol(t, o, blocks-1, esi), l...)
		}
	}
}

// Decode's error is told, block by block, ahead of that of the block or the number that is asked.
func TestP2401FreshTellsTheFirstError(t *testing.T) {
	l := five()
	noNumber, noSize := cloned(l[:1])[0], cloned(l[:1])[0]
	noNumber.Esi = -1
	noSize.Data = []byte{1}
	late := func(r api.Record) api.Record {
		r.Block = 1
		return r
	}
	s := l[0].Shape
	for _, x := range []struct {
		name string
		want api.Errno
		l    []api.Record
	}{
		{"no number, enough", api.ErrArg, append(cloned(l), noNumber)},
		{"no number, too few", api.ErrArg, []api.Record{noNumber}},
		{"another size, enough", api.ErrSize, append(cloned(l), noSize)},
		{"another size, too few", api.ErrSize, []api.Record{noSize}},
		{"another size, then no number", api.ErrArg, append(cloned(l), noSize, noNumber)},
		{"too few, then no number", api.ErrRank, []api.Record{l[0], l[2], late(noNumber)}},
		{"too few, then another size", api.ErrRank, []api.Record{late(noSize), l[0], l[2]}},
		{"another size, then no number in the next block", api.ErrSize, append(cloned(l), late(noNumber), noSize)},
		{"no number, then another size in the next block", api.ErrArg, append(cloned(l), late(noSize), noNumber)},
		{"enough, then too few", api.ErrRank, l[:2]},
		{"enough, then another size", api.ErrSize, append(cloned(l), late(noSize))},
	} {
		for _, b := range []int{0, 1, 2, -1} {
			for _, esi := range []int{0, 50, -1, api.MaxEsi} {
				isNone(t, "P2401: "+x.name, x.want, ours, s, b, esi, x.l...)
			}
		}
		isNone(t, "P2401: of none that count: "+x.name, api.ErrRank, api.Id{}, s, 0, 50, x.l...)
	}
	// Of other records there is none of these errors.
	isFresh(t, "P2401: no error", knownFive[2], l...)
}

func TestP2401FreshSaysWhatItIs(t *testing.T) {
	l := five()
	for _, until := range append([]int{3, 50, 10000, 1 << 30}, odd...) {
		want := knownFive[0]
		want.Until = until
		isFresh(t, "P2401: until", want, l...)
	}
	// Whoever the object's peer is, and whatever its number.
	for _, peer := range odd {
		for _, number := range odd {
			theirs := cloned(l)
			for i := range theirs {
				theirs[i].Id = api.Id{Peer: peer, Number: number}
			}
			want := knownFive[2]
			want.Id = theirs[0].Id
			isFresh(t, "P2401: id", want, theirs...)
		}
	}
	got, err := Fresh(ours, l[0].Shape, 1, 2, 30, l...)
	if err != api.OK || got.Id != ours || got.Shape != l[0].Shape || got.Block != 1 || got.Esi != 2 || got.Gone || got.Until != 30 || !slices.Equal(got.Data, []byte{183, 0}) {
		t.Errorf("P2401: Fresh: %v, error %d", got, err)
	}
	if !record.Right(got) {
		t.Errorf("P2401: %v is not Right", got)
	}
}

// byWords is what Fresh is to answer, by the chapters 10 to 12.
func byWords(id api.Id, s api.Shape, b, esi, until int, l []api.Record) (api.Record, api.Errno) {
	if !split.Right(s) {
		return api.Record{}, api.ErrArg
	}
	var blocks [][]rows.Row
	for n := range split.Blocks(s) {
		var drops []decode.Drop
		for _, r := range l {
			if r.Id == id && r.Shape == s && !r.Gone && r.Block == n {
				drops = append(drops, decode.Drop{Esi: r.Esi, Data: r.Data})
			}
		}
		source, err := decode.Block(split.K(s, n), s.Size, drops...)
		if err != api.OK {
			return api.Record{}, err
		}
		blocks = append(blocks, source)
	}
	data, _ := split.Join(s, blocks...)
	blocks, _ = split.Cut(s, data)
	if b < 0 || b >= len(blocks) {
		return api.Record{}, api.ErrArg
	}
	coded, _ := block.New(s.Size, blocks[b]...)
	symbol, err := coded.Symbol(esi)
	if err != api.OK {
		return api.Record{}, err
	}
	return api.Record{Id: id, Shape: s, Block: b, Esi: esi, Until: until, Data: symbol}, api.OK
}

// drawn are records of an object, most of the time enough, now and then with some turned.
func (c *chance) drawn(t *testing.T, o *object.Object) []api.Record {
	t.Helper()
	var l []api.Record
	for b := range split.Blocks(o.Shape) {
		for range split.K(o.Shape, b) + c.next(6) {
			l = append(l, symbol(t, o, b, c.esi()))
		}
	}
	l = c.turned(l)
	for range c.next(4) {
		at := c.next(len(l))
		switch c.next(9) {
		case 0:
			l[at].Id = otherIds[c.next(len(otherIds))]
		case 1:
			l[at].Shape.Most++
		case 2:
			l[at].Block = c.next(4) - 1
		case 3:
			l[at].Gone = true
		case 4:
			l[at].Esi = wrongEsis[c.next(len(wrongEsis))]
		case 5:
			l[at].Data = append(l[at].Data, 0)
		case 6:
			l[at].Data[0]++
		case 7:
			l = append(l, l[:at]...)
		case 8:
			l[at].Until = odd[c.next(len(odd))]
		}
	}
	return l
}

func TestP2401FreshByItsDefinition(t *testing.T) {
	c := chance(7)
	met := map[api.Errno]int{}
	for range 1500 {
		s := c.shape()
		l := c.drawn(t, made(t, s, c.bytes(s.Bytes)))
		id := ours
		if c.next(20) == 0 {
			id = otherIds[c.next(len(otherIds))]
		}
		if c.next(40) == 0 {
			s.Most = 0
		}
		b, esi, until := c.next(split.Blocks(s)+1), c.esi(), odd[c.next(len(odd))]
		want, wantErr := byWords(id, s, b, esi, until, l)
		met[wantErr]++
		got, err := Fresh(id, s, b, esi, until, l...)
		if err != wantErr || !sameRecord(got, want) {
			t.Fatalf("P2401: Fresh of %v, %v, %d, %d, %d and %v: %v, error %d; want %v, error %d", id, s, b, esi, until, l, got, err, want, wantErr)
		}
	}
	if met[api.OK] < 200 || met[api.ErrRank] < 200 || met[api.ErrArg] < 100 || met[api.ErrSize] < 50 {
		t.Errorf("too few of a kind: %v", met)
	}
}

// enough tells whether the records are enough of each block.
func enough(s api.Shape, l []api.Record) bool {
	for b := range split.Blocks(s) {
		var esis []int
		for _, r := range l {
			if r.Block == b {
				esis = append(esis, r.Esi)
			}
		}
		if !decode.Enough(split.K(s, b), esis...) {
			return false
		}
	}
	return true
}

// Whichever of an object's symbols the records are: if they are enough, Fresh makes the one that the object makes.
func TestP2402TheSymbolIsTheObjects(t *testing.T) {
	c := chance(8)
	met := map[bool]int{}
	for range 600 {
		s := c.shape()
		o := made(t, s, c.bytes(s.Bytes))
		var l []api.Record
		for b := range split.Blocks(s) {
			for range split.K(s, b) + c.next(6) {
				l = append(l, symbol(t, o, b, c.esi()))
			}
		}
		l = c.turned(l)
		b, esi := c.next(split.Blocks(s)), c.esi()
		isEnough := enough(s, l)
		met[isEnough]++
		if isEnough {
			isFresh(t, "P2402: enough", symbol(t, o, b, esi), l...)
		} else {
			isNone(t, "P2402: not enough", api.ErrRank, ours, s, b, esi, l...)
		}
	}
	if met[true] < 100 || met[false] < 100 {
		t.Errorf("too few of a kind: %v", met)
	}
}

// Of what was made of old ones more can be made, and at last what was put.
func TestP2402FreshOfFreshOnes(t *testing.T) {
	c := chance(9)
	for _, s := range shapes[:8] {
		data := c.bytes(s.Bytes)
		o := made(t, s, data)
		l, n := sources(t, o), 0
		for peer := range 3 {
			var next []api.Record
			for b := range split.Blocks(s) {
				for range split.K(s, b) + 8 {
					n++
					r, err := Fresh(ours, s, b, Esi(peer, n), 70, l...)
					if want := symbol(t, o, b, Esi(peer, n)); err != api.OK || !sameRecord(r, want) {
						t.Fatalf("P2402: peer %d makes %v, error %d; want %v", peer, r, err, want)
					}
					next = append(next, r)
				}
			}
			l = next
		}
		if got := solved(t, s, l); !slices.Equal(got, data) {
			t.Errorf("P2402: of what was made at last: %v, want %v", got, data)
		}
	}
}

// roomy lays records in the midst of a longer list, and their Data in the midst of longer ones: the longer Data, the longer list, and what is handed in of it.
func roomy(l []api.Record) (data [][]byte, list, inner []api.Record) {
	list = []api.Record{{Block: 1}, {Id: ours, Block: 2}}
	for _, r := range l {
		longer := slices.Concat([]byte{7, 8, 9}, r.Data, []byte{10, 11, 12})
		r.Data = longer[3 : 3+len(r.Data)]
		data, list = append(data, longer), append(list, r)
	}
	list = append(list, api.Record{Id: ours, Block: 3}, api.Record{Block: 4}, api.Record{Id: ours, Gone: true})
	return data, list, list[2 : 2+len(l)]
}

func sameData(a, b [][]byte) bool {
	return slices.EqualFunc(a, b, func(x, y []byte) bool { return slices.Equal(x, y) })
}

func TestP2402HandedInStays(t *testing.T) {
	c := chance(10)
	for _, s := range shapes[:9] {
		o := made(t, s, c.bytes(s.Bytes))
		l := from(t, o, 0, 3)
		other := cloned(l)
		for i := range other {
			other[i].Id.Number++
		}
		for _, l := range [][]api.Record{l, l[1:], slices.Concat(other, l), slices.Concat(l[:1], other, l[1:]), c.turned(append(l, other...)), append(passedOver(s), l...), wrongs(ours, s)} {
			data, list, inner := roomy(l)
			dataWas, listWas, _ := roomy(cloned(l))
			for _, block := range []int{0, split.Blocks(s) - 1, -1} {
				for _, esi := range []int{0, 50, -1} {
					Fresh(ours, s, block, esi, 9, inner...)
					Fresh(api.Id{}, s, block, esi, 9, inner...)
					Fresh(ours, api.Shape{}, block, esi, 9, inner...)
				}
			}
			if !sameData(data, dataWas) || !same(list, listWas) {
				t.Fatalf("P2402: of %v, what Fresh was handed turned", s)
			}
		}
	}
}

// spoil turns all bytes, those in the spare room too.
func spoil(l []byte) {
	l = l[:cap(l)]
	for i := range l {
		l[i] ^= 255
	}
}

// spoilAll turns all records, those in the spare room and their Data too.
func spoilAll(l []api.Record) {
	l = l[:cap(l)]
	for i := range l {
		spoil(l[i].Data)
		l[i] = api.Record{Id: api.Id{Peer: 9, Number: 9}, Block: 9, Gone: true, Data: []byte{9}}
	}
}

func TestP2402HandedInIsNotKept(t *testing.T) {
	c := chance(11)
	for _, s := range shapes[:9] {
		o, p := made(t, s, c.bytes(s.Bytes)), made(t, s, c.bytes(s.Bytes))
		// A source symbol, too: its Data could be those of a record that was handed in.
		for _, esi := range []int{0, 50} {
			l := from(t, o, 0, 2)
			want := symbol(t, o, 0, esi)
			got, err := Fresh(ours, s, 0, esi, 70, l...)
			spoilAll(l)
			if err != api.OK || !sameRecord(got, want) {
				t.Fatalf("P2402: with what was handed in turned: %v, error %d; want %v", got, err, want)
			}
			isNone(t, "P2402: none, behind one that was made", api.ErrRank, ours, s, 0, esi)
			// The same place in memory, other records.
			copy(l, from(t, p, 0, 2))
			isFresh(t, "P2402: of other records", symbol(t, p, 0, esi), l...)
			if !sameRecord(got, want) {
				t.Fatalf("P2402: behind a later call: %v, want %v", got, want)
			}
		}
	}
}

func TestP2402AnswersAreNewMemory(t *testing.T) {
	c := chance(12)
	for _, s := range shapes[:9] {
		o := made(t, s, c.bytes(s.Bytes))
		l := from(t, o, 0, 2)
		was := cloned(l)
		for _, esi := range []int{0, 1, 50, lastEsi} {
			want := symbol(t, o, 0, esi)
			first, _ := Fresh(ours, s, 0, esi, 70, l...)
			second, _ := Fresh(ours, s, 0, esi, 70, l...)
			spoil(first.Data)
			if !sameRecord(second, want) || !same(l, was) {
				t.Fatalf("P2402: with an answer turned, another one is %v, want %v; or what was handed in turned", second, want)
			}
			isFresh(t, "P2402: behind an answer that was turned", want, l...)
			spoil(second.Data)
			if !same(l, was) {
				t.Fatal("P2402: with an answer turned, what was handed in turned")
			}
		}
	}
}

// Data may be one and the same, and lie over one another.
func TestP2402DataThatShareMemory(t *testing.T) {
	s := api.Shape{Bytes: 12, Size: 3, Most: 2}
	long := []byte{1, 2, 3, 4}
	var l []api.Record
	for b := range 2 {
		for esi := range 2 {
			l = append(l, api.Record{Id: ours, Shape: s, Block: b, Esi: esi, Data: long[esi : esi+3]})
		}
	}
	o := made(t, s, []byte{1, 2, 3, 2, 3, 4, 1, 2, 3, 2, 3, 4})
	for esi := range 9 {
		isFresh(t, "P2402: Data that share memory", symbol(t, o, 1, esi), l...)
	}
}

// asked is what is handed in.
type asked struct {
	s                          api.Shape
	peer, n, block, esi, until int
	l                          []api.Record
}

// asks are drawn ones; each time others in memory, but alike.
func asks(t *testing.T, cases int) []asked {
	t.Helper()
	var l []asked
	for n := range cases {
		c := chance(n)
		s := c.shape()
		drawn := c.drawn(t, made(t, s, c.bytes(s.Bytes)))
		l = append(l, asked{s, odd[c.next(len(odd))], n, c.next(split.Blocks(s) + 1), c.esi(), odd[c.next(len(odd))], drawn})
	}
	return l
}

// told is all that is answered.
type told struct {
	esi int
	r   api.Record
	err api.Errno
}

func sameTold(a, b told) bool {
	return a.esi == b.esi && a.err == b.err && sameRecord(a.r, b.r)
}

func ask(a asked) told {
	r, err := Fresh(ours, a.s, a.block, a.esi, a.until, a.l...)
	return told{Esi(a.peer, a.n), r, err}
}

func askAll(l []asked) []told {
	var all []told
	for _, a := range l {
		all = append(all, ask(a))
	}
	return all
}

func TestP2402AnswersHangOnArgumentsAlone(t *testing.T) {
	l := asks(t, 200)
	first := askAll(l)
	if again := askAll(asks(t, 200)); !slices.EqualFunc(again, first, sameTold) {
		t.Error("P2402: asked again: other answers than at first")
	}
	for i, a := range slices.Backward(l) {
		if got := ask(a); !sameTold(got, first[i]) {
			t.Errorf("P2402: asked again, and backward, case %d is %v, not %v", i, got, first[i])
		}
	}
}

func TestP2402AskedAtOnce(t *testing.T) {
	l := asks(t, 40)
	want := askAll(l)
	got := make([][]told, 8)
	var asking sync.WaitGroup
	for i := range got {
		asking.Go(func() { got[i] = askAll(l) })
	}
	asking.Wait()
	for i := range got {
		if !slices.EqualFunc(got[i], want, sameTold) {
			t.Errorf("P2402: asked by others at once, %d: other answers than at first", i)
		}
	}
}
