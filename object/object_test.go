package object

import (
	"math"
	"slices"
	"sync"
	"testing"

	"fountain/api"
	"fountain/block"
	"fountain/decode"
	"fountain/rows"
	"fountain/split"
)

const lastEsi = api.MaxEsi - 1

// shaped are right shapes, and how many symbols each of their blocks has, worked out by hand.
var shaped = []struct {
	s api.Shape
	k []int
}{
	{api.Shape{Bytes: 5, Size: 2, Most: 2}, []int{2, 1}},
	{api.Shape{Bytes: 6, Size: 2, Most: 2}, []int{2, 1}},
	{api.Shape{Bytes: 1, Size: 1, Most: 1}, []int{1}},
	{api.Shape{Bytes: 1, Size: api.MaxSize, Most: api.MaxK}, []int{1}},
	{api.Shape{Bytes: 7, Size: 3, Most: 9}, []int{3}},
	{api.Shape{Bytes: 40, Size: 4, Most: 10}, []int{10}},
	{api.Shape{Bytes: 41, Size: 4, Most: 10}, []int{6, 5}},
	{api.Shape{Bytes: 90, Size: 3, Most: 12}, []int{10, 10, 10}},
	{api.Shape{Bytes: 22, Size: 1, Most: 5}, []int{5, 5, 4, 4, 4}},
	{api.Shape{Bytes: 30, Size: 1, Most: 1}, slices.Repeat([]int{1}, 30)},
	{api.Shape{Bytes: api.MaxSize * api.MaxK, Size: api.MaxSize, Most: api.MaxK}, []int{40}},
	{api.Shape{Bytes: api.MaxObject, Size: api.MaxSize, Most: api.MaxK}, []int{32, 31}},
}

// great are those of the most blocks, and of the most symbols.
var great = []api.Shape{
	{Bytes: api.MaxObject, Size: 1, Most: api.MaxK},
	{Bytes: api.MaxObject, Size: 1, Most: 1},
}

// wrongEsis are numbers that no symbol has.
var wrongEsis = []int{
	-1, -2, -lastEsi, -api.MaxEsi, api.MaxEsi, api.MaxEsi + 1, 1 << 25,
	1 << 32, -1 << 32, 1<<32 + 1, math.MinInt, math.MinInt + 1, math.MaxInt, math.MaxInt - 1,
}

// wrongBlocks are numbers of no block, of blocks that there are so many.
func wrongBlocks(blocks int) []int {
	return []int{
		blocks, -1, blocks + 1, -2, -blocks, 2 * blocks, 1 << 16, 1 << 32, -1 << 32, 1<<32 - blocks,
		math.MinInt, math.MinInt + 1, math.MaxInt, math.MaxInt - 1,
	}
}

// wrongOf are numbers that are not from 1 to most.
func wrongOf(most int) []int {
	return []int{0, most + 1, -1, -most, 2 * most, 1<<32 + 1, math.MinInt, math.MinInt + 1, math.MaxInt}
}

// wrongShapes are some of which one number is wrong, two are, or all.
func wrongShapes() []api.Shape {
	var l []api.Shape
	bytes, sizes, mosts := wrongOf(api.MaxObject), wrongOf(api.MaxSize), wrongOf(api.MaxK)
	for i := range bytes {
		b, s, m := bytes[i], sizes[i], mosts[i]
		l = append(l,
			api.Shape{Bytes: b, Size: 2, Most: 2}, api.Shape{Bytes: 5, Size: s, Most: 2}, api.Shape{Bytes: 5, Size: 2, Most: m},
			api.Shape{Bytes: b, Size: s, Most: 2}, api.Shape{Bytes: b, Size: 2, Most: m}, api.Shape{Bytes: 5, Size: s, Most: m},
			api.Shape{Bytes: b, Size: s, Most: m})
	}
	return l
}

// someEsis are numbers of symbols of a block of k source ones: these, the ones behind them, others, and the last.
func someEsis(k int) []int {
	l := []int{255, 256, 65535, 65536, 123456, 1<<23 + 77, lastEsi - 1, lastEsi}
	for esi := range k + 4 {
		l = append(l, esi)
	}
	return l
}

// ruled answers n bytes that a short rule tells, so that what is made of them can be worked out elsewhere.
func ruled(n int) []byte {
	l := make([]byte, n)
	for i := range l {
		l[i] = byte(37*i + i*i/5 + 3)
	}
	return l
}

// chance makes numbers that follow no rule that shows.
type chance uint32

func (c *chance) next(below int) int {
	*c = *c*1664525 + 1013904223
	return int(*c>>7) % below
}

func (c *chance) bytes(n int) []byte {
	l := make([]byte, n)
	for i := range l {
		l[i] = byte(c.next(256))
	}
	return l
}

func (c *chance) shape() api.Shape {
	return api.Shape{Bytes: 1 + c.next(60), Size: 1 + c.next(8), Most: 1 + c.next(9)}
}

// turned has the records in another order.
func (c *chance) turned(l []api.Record) []api.Record {
	l = slices.Clone(l)
	for i := range l {
		at := i + c.next(len(l)-i)
		l[i], l[at] = l[at], l[i]
	}
	return l
}

func sameRecord(a, b api.Record) bool {
	return a.Id == b.Id && a.Shape == b.Shape && a.Block == b.Block && a.Esi == b.Esi && a.Gone == b.Gone && a.Until == b.Until && slices.Equal(a.Data, b.Data)
}

func same(a, b []api.Record) bool {
	return slices.EqualFunc(a, b, sameRecord)
}

func cloned(l []api.Record) []api.Record {
	var c []api.Record
	for _, r := range l {
		r.Data = slices.Clone(r.Data)
		c = append(c, r)
	}
	return c
}

// without is l but for those that are to be left out.
func without(l []api.Record, out func(r api.Record) bool) []api.Record {
	return slices.DeleteFunc(slices.Clone(l), out)
}

// made is an object that can be made.
func made(t *testing.T, s api.Shape, data []byte) *Object {
	t.Helper()
	o, err := New(s, data)
	if o == nil || err != api.OK {
		t.Fatalf("P1301: New of %v: %v, error %d", s, o, err)
	}
	return o
}

// symbol is one that can be.
func symbol(t *testing.T, o *Object, block, esi int) []byte {
	t.Helper()
	data, err := o.Symbol(block, esi)
	if len(data) != o.Size || err != api.OK {
		t.Fatalf("P1301: Symbol(%d, %d) of %v: %v, error %d", block, esi, o.Shape, data, err)
	}
	return data
}

// record is that of a symbol.
func record(t *testing.T, o *Object, block, esi int) api.Record {
	t.Helper()
	return api.Record{Shape: o.Shape, Block: block, Esi: esi, Data: symbol(t, o, block, esi)}
}

// beyond are records of so many symbols of each block, from a number on.
func beyond(t *testing.T, o *Object, from, n int) []api.Record {
	t.Helper()
	var l []api.Record
	for b := range split.Blocks(o.Shape) {
		for esi := range n {
			l = append(l, record(t, o, b, from+esi))
		}
	}
	return l
}

// blocksOf are the object's, by chapters 10 and 12.
func blocksOf(t *testing.T, s api.Shape, data []byte) []*block.Block {
	t.Helper()
	cut, err := split.Cut(s, data)
	if err != api.OK {
		t.Fatalf("Cut of %v: error %d", s, err)
	}
	var l []*block.Block
	for _, source := range cut {
		b, err := block.New(s.Size, source...)
		if err != api.OK {
			t.Fatalf("New of a block of %v: error %d", s, err)
		}
		l = append(l, b)
	}
	return l
}

// recordsOf are those that an object must answer, by chapters 10 and 12; extra is one that need not be cut.
func recordsOf(t *testing.T, s api.Shape, data []byte, id api.Id, extra, until int) []api.Record {
	t.Helper()
	var l []api.Record
	for n, b := range blocksOf(t, s, data) {
		for esi := range b.K + extra {
			data, err := b.Symbol(esi)
			if err != api.OK {
				t.Fatalf("Symbol(%d) of a block of %v: error %d", esi, s, err)
			}
			l = append(l, api.Record{Id: id, Shape: s, Block: n, Esi: esi, Gone: false, Until: until, Data: data})
		}
	}
	return l
}

// enough tells whether the records that count are enough of each block.
func enough(s api.Shape, l []api.Record) bool {
	for b := range split.Blocks(s) {
		var esis []int
		for _, r := range l {
			if !r.Gone && r.Shape == s && r.Block == b {
				esis = append(esis, r.Esi)
			}
		}
		if !decode.Enough(split.K(s, b), esis...) {
			return false
		}
	}
	return true
}

// refused tells where New answers anything but the error.
func refused(t *testing.T, name string, want api.Errno, s api.Shape, data []byte) {
	t.Helper()
	if o, err := New(s, data); o != nil || err != want {
		t.Errorf("P1301: %s: New of %v, of %d bytes: %v, error %d; want no object, error %d", name, s, len(data), o, err, want)
	}
}

// wants tells where Decode answers anything but the bytes.
func wants(t *testing.T, name string, want []byte, s api.Shape, l ...api.Record) {
	t.Helper()
	if got, err := Decode(s, l...); !slices.Equal(got, want) || err != api.OK {
		t.Errorf("%s: Decode of %v, of %d records: %v, error %d; want %v", name, s, len(l), got, err, want)
	}
}

// notDecoded tells where Decode answers anything but the error.
func notDecoded(t *testing.T, name string, want api.Errno, s api.Shape, l ...api.Record) {
	t.Helper()
	if got, err := Decode(s, l...); len(got) != 0 || err != want {
		t.Errorf("%s: Decode of %v, of %d records: %v, error %d; want nothing, error %d", name, s, len(l), got, err, want)
	}
}

// known are symbols of objects of ruled bytes, worked out beside the program.
var known = []struct {
	s          api.Shape
	block, esi int
	symbol     []byte
}{
	{api.Shape{Bytes: 5, Size: 2, Most: 2}, 0, 0, []byte{3, 40}},
	{api.Shape{Bytes: 5, Size: 2, Most: 2}, 0, 1, []byte{77, 115}},
	{api.Shape{Bytes: 5, Size: 2, Most: 2}, 0, lastEsi, []byte{36, 115}},
	{api.Shape{Bytes: 5, Size: 2, Most: 2}, 1, 0, []byte{154, 0}},
	{api.Shape{Bytes: 5, Size: 2, Most: 2}, 1, 1, []byte{0, 0}},
	{api.Shape{Bytes: 5, Size: 2, Most: 2}, 1, 2, []byte{183, 0}},
	{api.Shape{Bytes: 7, Size: 3, Most: 9}, 0, 2, []byte{232, 0, 0}},
	{api.Shape{Bytes: 7, Size: 3, Most: 9}, 0, 4, []byte{177, 211, 216}},
	{api.Shape{Bytes: 7, Size: 3, Most: 9}, 0, lastEsi, []byte{153, 79, 250}},
	{api.Shape{Bytes: 40, Size: 4, Most: 10}, 0, 11, []byte{226, 17, 206, 174}},
	{api.Shape{Bytes: 40, Size: 4, Most: 10}, 0, 123456, []byte{200, 81, 202, 248}},
	{api.Shape{Bytes: 41, Size: 4, Most: 10}, 0, 7, []byte{180, 215, 241, 72}},
	{api.Shape{Bytes: 41, Size: 4, Most: 10}, 1, 4, []byte{11, 0, 0, 0}},
	{api.Shape{Bytes: 41, Size: 4, Most: 10}, 1, 5, []byte{150, 186, 217, 160}},
	{api.Shape{Bytes: 41, Size: 4, Most: 10}, 1, lastEsi, []byte{137, 67, 66, 62}},
	{api.Shape{Bytes: 90, Size: 3, Most: 12}, 1, 10, []byte{229, 114, 174}},
	{api.Shape{Bytes: 90, Size: 3, Most: 12}, 2, lastEsi, []byte{207, 57, 215}},
	{api.Shape{Bytes: 1, Size: 1, Most: 1}, 0, 2, []byte{74}},
	{great[0], 0, 40, []byte{166}},
	{great[0], 50, 41, []byte{3}},
	{great[0], 99, 39, []byte{190}},
	{great[0], 99, lastEsi, []byte{210}},
}

func TestP1301KnownSymbols(t *testing.T) {
	for _, n := range known {
		o := made(t, n.s, ruled(n.s.Bytes))
		if got, err := o.Symbol(n.block, n.esi); !slices.Equal(got, n.symbol) || err != api.OK {
			t.Errorf("P1301: Symbol(%d, %d) of %v: %v, error %d; want %v", n.block, n.esi, n.s, got, err, n.symbol)
		}
	}
}

// knownObjects are made of just enough records with Data of a rule, none of them source ones, worked out beside the program: from which number on they are, block by block.
var knownObjects = []struct {
	s    api.Shape
	from []int
	data []byte
}{
	{api.Shape{Bytes: 5, Size: 2, Most: 2}, []int{4, 3}, []byte{154, 114, 40, 148, 12}},
	{api.Shape{Bytes: 7, Size: 2, Most: 2}, []int{8, 3}, []byte{134, 184, 56, 146, 173, 33, 53}},
	{api.Shape{Bytes: 11, Size: 3, Most: 4}, []int{4}, []byte{238, 175, 140, 198, 59, 140, 249, 23, 217, 21, 23}},
	{api.Shape{Bytes: 23, Size: 4, Most: 3}, []int{4, 10}, []byte{101, 84, 51, 202, 170, 57, 207, 130, 40, 148, 0, 108, 26, 228, 100, 231, 191, 89, 206, 211, 16, 174, 168}},
	{api.Shape{Bytes: 37, Size: 1, Most: 20}, []int{22, 29}, []byte{
		254, 241, 147, 174, 30, 144, 4, 200, 148, 157, 58, 3, 115, 6, 71, 232, 152, 203, 62, 63, 237, 64, 65, 99, 127, 118, 215, 148, 114, 101, 248, 144, 109, 155, 39, 131, 8,
	}},
	{api.Shape{Bytes: 48, Size: 2, Most: 8}, []int{100011, 8, 18}, []byte{
		23, 180, 148, 134, 78, 94, 207, 130, 62, 166, 5, 14, 18, 64, 2, 184, 136, 252, 210, 124, 124, 254, 86, 208,
		234, 178, 27, 112, 232, 186, 168, 8, 45, 206, 124, 39, 0, 18, 129, 52, 217, 134, 174, 74, 41, 187, 36, 207,
	}},
}

func TestP1301KnownObjects(t *testing.T) {
	c := chance(1)
	for _, n := range knownObjects {
		var l []api.Record
		for b, from := range n.from {
			for i := range split.K(n.s, b) {
				data := make([]byte, n.s.Size)
				for at := range data {
					data[at] = byte(37*i + 101*at + 7*i*at + 3 + 50*b)
				}
				l = append(l, api.Record{Shape: n.s, Block: b, Esi: from + i, Data: data})
			}
		}
		wants(t, "P1301: known", n.data, n.s, l...)
		wants(t, "P1301: known, in another order", n.data, n.s, c.turned(l)...)
		for i := range l {
			notDecoded(t, "P1301: known, one too few", api.ErrRank, n.s, slices.Delete(slices.Clone(l), i, i+1)...)
		}
	}
}

// holdsBlocks holds an object's symbols against those of its blocks.
func holdsBlocks(t *testing.T, s api.Shape, data []byte) {
	t.Helper()
	o := made(t, s, data)
	for n, b := range blocksOf(t, s, data) {
		for _, esi := range someEsis(b.K) {
			want, _ := b.Symbol(esi)
			if got, err := o.Symbol(n, esi); len(got) != s.Size || !slices.Equal(got, want) || err != api.OK {
				t.Fatalf("P1301: Symbol(%d, %d) of %v: %v, error %d; want %v", n, esi, s, got, err, want)
			}
		}
	}
}

func TestP1301Symbols(t *testing.T) {
	c := chance(2)
	for _, n := range shaped {
		holdsBlocks(t, n.s, c.bytes(n.s.Bytes))
		holdsBlocks(t, n.s, make([]byte, n.s.Bytes))
		holdsBlocks(t, n.s, slices.Repeat([]byte{255}, n.s.Bytes))
	}
	for _, s := range great {
		holdsBlocks(t, s, c.bytes(s.Bytes))
	}
	for range 100 {
		s := c.shape()
		holdsBlocks(t, s, c.bytes(s.Bytes))
	}
}

// The source symbols, one behind the other, are the bytes, with bytes 0 behind.
func TestP1301SourceSymbols(t *testing.T) {
	c := chance(3)
	for _, n := range shaped {
		data := c.bytes(n.s.Bytes)
		o := made(t, n.s, data)
		var got []byte
		for b, k := range n.k {
			for esi := range k {
				got = append(got, symbol(t, o, b, esi)...)
			}
		}
		if want := append(data, make([]byte, len(got)-n.s.Bytes)...); !slices.Equal(got, want) {
			t.Errorf("P1301: the source symbols of %v: %v; want %v", n.s, got, want)
		}
	}
}

// The Shape's fields are the object's.
func TestP1301TheShapeIsEmbedded(t *testing.T) {
	for _, n := range shaped {
		o := made(t, n.s, ruled(n.s.Bytes))
		var s api.Shape = o.Shape
		if s != n.s || o.Bytes != n.s.Bytes || o.Size != n.s.Size || o.Most != n.s.Most {
			t.Errorf("P1301: of %v: Shape %v, Bytes %d, Size %d, Most %d", n.s, s, o.Bytes, o.Size, o.Most)
		}
	}
}

func TestP1301NewOfAWrongShape(t *testing.T) {
	for _, s := range append(wrongShapes(), api.Shape{}) {
		// The shape is looked at ahead of the bytes, whether there are as many as it says or not.
		for _, n := range []int{0, 1, 5, min(max(s.Bytes, 0), 9000), api.MaxObject + 1} {
			refused(t, "not right", api.ErrArg, s, make([]byte, n))
		}
		refused(t, "not right, nil", api.ErrArg, s, nil)
	}
}

func TestP1301NewOfOtherBytes(t *testing.T) {
	for _, n := range shaped {
		bytes := n.s.Bytes
		refused(t, "nil", api.ErrSize, n.s, nil)
		refused(t, "none", api.ErrSize, n.s, []byte{})
		for _, wrong := range []int{bytes - 1, bytes + 1, bytes + n.s.Size, 2 * bytes, api.MaxObject + 1, api.MaxObject * 2} {
			refused(t, "of other bytes", api.ErrSize, n.s, ruled(wrong))
		}
		// Bytes that lie in the spare room are none.
		refused(t, "in the spare room", api.ErrSize, n.s, ruled(bytes)[:bytes-1])
		made(t, n.s, ruled(bytes + 1)[:bytes])
	}
}

func TestP1301SymbolOfNoBlock(t *testing.T) {
	for _, n := range shaped {
		o := made(t, n.s, ruled(n.s.Bytes))
		for _, b := range wrongBlocks(len(n.k)) {
			for _, esi := range append(slices.Clone(wrongEsis), 0, 1, lastEsi) {
				if got, err := o.Symbol(b, esi); len(got) != 0 || err != api.ErrArg {
					t.Errorf("P1301: Symbol(%d, %d) of %v: %v, error %d; want nothing, ErrArg", b, esi, n.s, got, err)
				}
			}
		}
	}
}

func TestP1301SymbolOfAWrongEsi(t *testing.T) {
	for _, n := range shaped {
		o := made(t, n.s, ruled(n.s.Bytes))
		for b := range n.k {
			for _, esi := range wrongEsis {
				if got, err := o.Symbol(b, esi); len(got) != 0 || err != api.ErrArg {
					t.Errorf("P1301: Symbol(%d, %d) of %v: %v, error %d; want nothing, ErrArg", b, esi, n.s, got, err)
				}
			}
			symbol(t, o, b, 0)
			symbol(t, o, b, lastEsi)
		}
	}
}

// someIds are any ids, those that no object has too.
var someIds = []api.Id{
	{}, {Peer: 1, Number: 1}, {Peer: 11, Number: 7}, {Peer: -3, Number: 0}, {Peer: 0, Number: -9},
	{Peer: math.MinInt, Number: math.MaxInt}, {Peer: math.MaxInt, Number: math.MinInt},
}

// someUntils are any ticks.
var someUntils = []int{0, 1, -1, 100, -1 << 40, math.MinInt, math.MaxInt}

func TestP1301Records(t *testing.T) {
	for i, n := range shaped {
		data := ruled(n.s.Bytes)
		o := made(t, n.s, data)
		for _, extra := range []int{0, 1, 2, 5, 99, 100} {
			id, until := someIds[(i+extra)%len(someIds)], someUntils[(3*i+extra)%len(someUntils)]
			got, want := o.Records(id, extra, until), recordsOf(t, n.s, data, id, extra, until)
			if !same(got, want) {
				t.Errorf("P1301: Records(%v, %d, %d) of %v: %v; want %v", id, extra, until, n.s, got, want)
			}
		}
	}
}

func TestP1301RecordsOfAnyIdAndUntil(t *testing.T) {
	s := api.Shape{Bytes: 5, Size: 2, Most: 2}
	o := made(t, s, ruled(5))
	for _, id := range someIds {
		for _, until := range someUntils {
			want := []api.Record{
				{Id: id, Shape: s, Block: 0, Esi: 0, Until: until, Data: []byte{3, 40}},
				{Id: id, Shape: s, Block: 0, Esi: 1, Until: until, Data: []byte{77, 115}},
				{Id: id, Shape: s, Block: 0, Esi: 2, Until: until, Data: []byte{77, 115}},
				{Id: id, Shape: s, Block: 1, Esi: 0, Until: until, Data: []byte{154, 0}},
				{Id: id, Shape: s, Block: 1, Esi: 1, Until: until, Data: []byte{0, 0}},
			}
			if got := o.Records(id, 1, until); !same(got, want) {
				t.Errorf("P1301: Records(%v, 1, %d) of %v: %v; want %v", id, until, s, got, want)
			}
		}
	}
}

func TestP1301RecordsExtraIsCut(t *testing.T) {
	for _, n := range shaped {
		data := ruled(n.s.Bytes)
		o := made(t, n.s, data)
		id := api.Id{Peer: 2, Number: 3}
		least, most := recordsOf(t, n.s, data, id, 0, 4), recordsOf(t, n.s, data, id, 100, 4)
		for _, extra := range []int{0, -1, -2, -40, -100, -1 << 32, 5 - 1<<32, math.MinInt, math.MinInt + 1} {
			if got := o.Records(id, extra, 4); !same(got, least) {
				t.Errorf("P1301: Records of %v, %d extra: %d records; want %d", n.s, extra, len(got), len(least))
			}
		}
		for _, extra := range []int{100, 101, 102, 200, 255, 256, 1 << 32, 1<<32 + 5, math.MaxInt, math.MaxInt - 1, math.MaxInt - api.MaxK} {
			if got := o.Records(id, extra, 4); !same(got, most) {
				t.Errorf("P1301: Records of %v, %d extra: %d records; want %d", n.s, extra, len(got), len(most))
			}
		}
	}
}

func TestP1301RecordsOfTheGreatest(t *testing.T) {
	for _, s := range great {
		data := ruled(s.Bytes)
		got := made(t, s, data).Records(api.Id{Peer: 5, Number: 6}, 2, 7)
		if want := recordsOf(t, s, data, api.Id{Peer: 5, Number: 6}, 2, 7); !same(got, want) {
			t.Errorf("P1301: Records of %v: %d records, not as chapter 10 has them", s, len(got))
		}
		wants(t, "P1302: of the greatest", data, s, got...)
		notDecoded(t, "P1301: of the greatest, none of the last block", api.ErrRank, s, without(got, func(r api.Record) bool { return r.Block == split.Blocks(s)-1 })...)
	}
}

// Whatever records are taken that are enough, and in which order: they are decoded.
func TestP1302DecodeOfAllKinds(t *testing.T) {
	c := chance(4)
	for _, n := range shaped {
		data := c.bytes(n.s.Bytes)
		o := made(t, n.s, data)
		id := api.Id{Peer: 3, Number: 4}
		source, all := o.Records(id, 0, 9), o.Records(id, 8, 9)
		behind := without(all, func(r api.Record) bool { return r.Esi < n.k[r.Block] })
		half := without(all, func(r api.Record) bool { return r.Esi < (n.k[r.Block]+1)/2 && r.Esi%4 == 0 })
		last := beyond(t, o, lastEsi-46, 47)
		for name, l := range map[string][]api.Record{
			"the source ones":               source,
			"the source ones twice":         slices.Concat(source, source),
			"all":                           all,
			"all twice":                     slices.Concat(all, all),
			"some source ones, some others": half,
			"the last ones":                 last,
			"the last ones and all":         slices.Concat(last, all, behind),
		} {
			if !enough(n.s, l) {
				t.Fatalf("%s of %v aren't enough", name, n.s)
			}
			wants(t, "P1302: "+name, data, n.s, l...)
			wants(t, "P1302: in another order, "+name, data, n.s, c.turned(l)...)
			slices.Reverse(l)
			wants(t, "P1302: turned around, "+name, data, n.s, l...)
		}
	}
}

// Of several of one number and one block the first counts; ones of one number, but of other blocks, are others.
func TestP1301FirstCounts(t *testing.T) {
	c := chance(5)
	for _, n := range shaped {
		ours, others := c.bytes(n.s.Bytes), c.bytes(n.s.Bytes)
		own, other := made(t, n.s, ours).Records(api.Id{}, 0, 0), made(t, n.s, others).Records(api.Id{}, 0, 0)
		wants(t, "P1301: another object's behind", ours, n.s, slices.Concat(own, other)...)
		wants(t, "P1301: another object's ahead", others, n.s, slices.Concat(other, own)...)
		for b := range n.k {
			ofBlock := without(other, func(r api.Record) bool { return r.Block != b })
			mixed := without(own, func(r api.Record) bool { return r.Block == b })
			want, err := split.Join(n.s, blocksBut(t, n.s, ours, others, b)...)
			if err != api.OK {
				t.Fatalf("Join of %v: error %d", n.s, err)
			}
			wants(t, "P1301: one block of another object", want, n.s, slices.Concat(mixed, ofBlock)...)
			wants(t, "P1301: one block of another object ahead", want, n.s, slices.Concat(ofBlock, own)...)
		}
	}
}

// blocksBut are the rows of ours, but those of one block are of others.
func blocksBut(t *testing.T, s api.Shape, ours, others []byte, b int) [][]rows.Row {
	t.Helper()
	l, err := split.Cut(s, ours)
	if err != api.OK {
		t.Fatalf("Cut of %v: error %d", s, err)
	}
	other, _ := split.Cut(s, others)
	l[b] = other[b]
	return l
}

// passedOver are records that don't count for an object of that shape, whatever else they say: the Data of most can't be, and so can't the numbers.
func passedOver(s api.Shape, blocks int) []api.Record {
	var l []api.Record
	for _, esi := range []int{0, 1, -1, api.MaxEsi, math.MinInt} {
		for _, data := range [][]byte{nil, make([]byte, s.Size), {1, 2, 3}} {
			for _, b := range wrongBlocks(blocks) {
				l = append(l, api.Record{Shape: s, Block: b, Esi: esi, Data: data})
			}
			for b := range blocks {
				l = append(l, api.Record{Shape: s, Block: b, Esi: esi, Gone: true, Data: data})
				for _, other := range []api.Shape{
					{}, {Bytes: s.Bytes + 1, Size: s.Size, Most: s.Most}, {Bytes: s.Bytes, Size: s.Size + 1, Most: s.Most}, {Bytes: s.Bytes, Size: s.Size, Most: s.Most + 1},
					{Bytes: s.Bytes - 1, Size: s.Size, Most: s.Most}, {Bytes: s.Bytes, Size: s.Size - 1, Most: s.Most}, {Bytes: s.Bytes, Size: s.Size, Most: s.Most - 1},
				} {
					l = append(l, api.Record{Shape: other, Block: b, Esi: esi, Data: data})
				}
			}
		}
	}
	return l
}

func TestP1301PassedOver(t *testing.T) {
	c := chance(6)
	for _, n := range shaped {
		data := c.bytes(n.s.Bytes)
		all := made(t, n.s, data).Records(api.Id{Peer: 1, Number: 1}, 3, 1)
		none := passedOver(n.s, len(n.k))
		wants(t, "P1301: behind ones that don't count", data, n.s, slices.Concat(none, all)...)
		wants(t, "P1301: ahead of ones that don't count", data, n.s, slices.Concat(all, none)...)
		wants(t, "P1301: amidst ones that don't count", data, n.s, c.turned(slices.Concat(all, none))...)
		notDecoded(t, "P1301: none that count", api.ErrRank, n.s, none...)
	}
}

// Records of another shape don't count, though their symbols would do, nor do those that say Gone.
func TestP1301NoneThatCount(t *testing.T) {
	c := chance(7)
	for _, n := range shaped {
		data := c.bytes(n.s.Bytes)
		all := made(t, n.s, data).Records(api.Id{}, 6, 0)
		for name, turn := range map[string]func(r *api.Record){
			"other Bytes": func(r *api.Record) { r.Shape.Bytes++ },
			"other Size":  func(r *api.Record) { r.Shape.Size-- },
			"other Most":  func(r *api.Record) { r.Shape.Most++ },
			"no Shape":    func(r *api.Record) { r.Shape = api.Shape{} },
			"Gone":        func(r *api.Record) { r.Gone = true },
			"block ahead": func(r *api.Record) { r.Block -= len(n.k) },
			"beyond":      func(r *api.Record) { r.Block += len(n.k) },
		} {
			l := cloned(all)
			for i := range l {
				turn(&l[i])
			}
			notDecoded(t, "P1301: "+name, api.ErrRank, n.s, l...)
			wants(t, "P1301: "+name+" beside", data, n.s, slices.Concat(l, all)...)
			// Of one block alone.
			for b := range n.k {
				l := cloned(all)
				for i := range l {
					if l[i].Block == b {
						turn(&l[i])
					}
				}
				notDecoded(t, "P1301: one block of "+name, api.ErrRank, n.s, l...)
			}
		}
	}
}

// Neither the Id nor Until is looked at.
func TestP1301AnyIdAndUntil(t *testing.T) {
	c := chance(8)
	for _, n := range shaped {
		data := c.bytes(n.s.Bytes)
		l := made(t, n.s, data).Records(api.Id{}, 1, 0)
		for i := range l {
			l[i].Id, l[i].Until = someIds[i%len(someIds)], someUntils[c.next(len(someUntils))]
		}
		wants(t, "P1301: of any Id and Until", data, n.s, l...)
	}
}

func TestP1301DecodeOfNone(t *testing.T) {
	for _, n := range shaped {
		notDecoded(t, "P1301: the example, none", api.ErrRank, n.s)
		notDecoded(t, "P1301: an empty list", api.ErrRank, n.s, []api.Record{}...)
		all := made(t, n.s, ruled(n.s.Bytes)).Records(api.Id{}, 20, 0)
		for b := range n.k {
			notDecoded(t, "P1301: none of one block", api.ErrRank, n.s, without(all, func(r api.Record) bool { return r.Block == b })...)
			// There are no more than one block's.
			if len(n.k) > 1 {
				notDecoded(t, "P1301: of one block alone", api.ErrRank, n.s, without(all, func(r api.Record) bool { return r.Block != b })...)
			}
		}
		// What lies in the spare room isn't there.
		notDecoded(t, "P1301: in the spare room", api.ErrRank, n.s, all[:n.k[0]-1]...)
	}
}

// One too few in one block alone, whichever it is, and whichever is missing.
func TestP1301OneTooFew(t *testing.T) {
	for _, n := range shaped {
		data := ruled(n.s.Bytes)
		o := made(t, n.s, data)
		source, all := o.Records(api.Id{}, 0, 0), o.Records(api.Id{}, 9, 0)
		for b, k := range n.k {
			for _, esi := range []int{0, k / 2, k - 1} {
				l := without(source, func(r api.Record) bool { return r.Block == b && r.Esi == esi })
				notDecoded(t, "P1301: one too few", api.ErrRank, n.s, l...)
				notDecoded(t, "P1301: one too few, all others twice", api.ErrRank, n.s, slices.Concat(l, l)...)
				more := without(all, func(r api.Record) bool { return r.Block == b && (r.Esi == esi || r.Esi >= k) })
				notDecoded(t, "P1301: one too few, many of the others", api.ErrRank, n.s, more...)
				madeUp(t, data, o, b, l)
			}
		}
	}
}

// madeUp adds to records of which one block lacks one, one of a number behind the source ones that makes up for it: one in any hundred does.
func madeUp(t *testing.T, data []byte, o *Object, b int, l []api.Record) {
	t.Helper()
	k := split.K(o.Shape, b)
	for behind := range 100 {
		if l := append(slices.Clone(l), record(t, o, b, k+behind)); enough(o.Shape, l) {
			wants(t, "P1302: just enough", data, o.Shape, l...)
			return
		}
	}
	t.Errorf("P1302: of %v, no symbol makes up for one that block %d lacks", o.Shape, b)
}

// A symbol that one block has too many doesn't make up for one that another lacks.
func TestP1301BlocksAreApart(t *testing.T) {
	s := api.Shape{Bytes: 8, Size: 2, Most: 2}
	o := made(t, s, ruled(8))
	l := []api.Record{record(t, o, 0, 0), record(t, o, 1, 0), record(t, o, 1, 1), record(t, o, 1, 5), record(t, o, 1, 6)}
	notDecoded(t, "P1301: too many of the second", api.ErrRank, s, l...)
	wants(t, "P1301: enough of both", ruled(8), s, append(l, record(t, o, 0, 1))...)
}

func TestP1301DecodeOfAWrongShape(t *testing.T) {
	right := api.Shape{Bytes: 5, Size: 2, Most: 2}
	l := made(t, right, ruled(5)).Records(api.Id{}, 3, 0)
	for _, s := range append(wrongShapes(), api.Shape{}) {
		notDecoded(t, "P1301: no records", api.ErrArg, s)
		notDecoded(t, "P1301: records of another shape", api.ErrArg, s, l...)
		own := cloned(l)
		for i := range own {
			own[i].Shape = s
		}
		notDecoded(t, "P1301: records of this shape", api.ErrArg, s, own...)
		// The shape is looked at ahead of the records.
		own[0].Esi, own[1].Data = -1, nil
		notDecoded(t, "P1301: records that can't be", api.ErrArg, s, own...)
	}
}

func TestP1301DecodeOfAWrongEsi(t *testing.T) {
	for _, n := range shaped {
		all := made(t, n.s, ruled(n.s.Bytes)).Records(api.Id{}, 2, 0)
		for b := range n.k {
			for i, esi := range wrongEsis {
				at := i * len(all) / len(wrongEsis)
				for _, data := range [][]byte{make([]byte, n.s.Size), nil, make([]byte, n.s.Size+1)} {
					wrong := api.Record{Shape: n.s, Block: b, Esi: esi, Data: data}
					notDecoded(t, "P1301: a number that can't be", api.ErrArg, n.s, slices.Insert(slices.Clone(all), at, wrong)...)
				}
			}
		}
	}
}

// wrongData are some that are not of that size.
func wrongData(size int) [][]byte {
	// Bytes that lie in the spare room are none.
	return [][]byte{nil, {}, make([]byte, size-1), make([]byte, size+1), make([]byte, 2*size), make([]byte, 1000), make([]byte, size)[:size-1]}
}

func TestP1301DecodeOfWrongData(t *testing.T) {
	for _, n := range shaped {
		all := made(t, n.s, ruled(n.s.Bytes)).Records(api.Id{}, 2, 0)
		for b, k := range n.k {
			for i, data := range wrongData(n.s.Size) {
				// One that takes another's place, one behind it, that doesn't count for it, and one of another number.
				own := slices.Clone(all)
				at := slices.IndexFunc(own, func(r api.Record) bool { return r.Block == b && r.Esi == i%k })
				own[at].Data = data
				notDecoded(t, "P1301: Data of another size", api.ErrSize, n.s, own...)
				notDecoded(t, "P1301: Data of another size behind", api.ErrSize, n.s, append(slices.Clone(all), own[at])...)
				own[at].Esi = 1000
				notDecoded(t, "P1301: Data of another size, of another number", api.ErrSize, n.s, append(slices.Clone(all), own[at])...)
			}
		}
	}
}

// faults are ways to spoil the records of one block, and what is told then; those that stand ahead are told ahead where one block has two.
var faults = []struct {
	name  string
	err   api.Errno
	spoil func(s api.Shape, l []api.Record, b int) []api.Record
}{
	{"a number", api.ErrArg, func(s api.Shape, l []api.Record, b int) []api.Record {
		return append(l, api.Record{Shape: s, Block: b, Esi: api.MaxEsi, Data: make([]byte, s.Size)})
	}},
	{"Data", api.ErrSize, func(s api.Shape, l []api.Record, b int) []api.Record {
		return append([]api.Record{{Shape: s, Block: b, Esi: 7, Data: make([]byte, s.Size+1)}}, l...)
	}},
	{"too few", api.ErrRank, func(s api.Shape, l []api.Record, b int) []api.Record {
		return without(l, func(r api.Record) bool { return r.Block == b && r.Esi < api.MaxEsi && len(r.Data) == s.Size })
	}},
}

func TestP1301BlockByBlock(t *testing.T) {
	for _, n := range shaped {
		all := made(t, n.s, ruled(n.s.Bytes)).Records(api.Id{}, 2, 0)
		for b := range n.k {
			for c := range n.k {
				for i, first := range faults {
					for j, second := range faults {
						l := second.spoil(n.s, first.spoil(n.s, slices.Clone(all), b), c)
						want := first.err
						if c < b || c == b && j < i {
							want = second.err
						}
						notDecoded(t, "P1301: "+first.name+" of one block, "+second.name+" of one", want, n.s, l...)
					}
				}
			}
		}
	}
}

// Data of no block are told as too little.
func TestP1301DataOfNoObject(t *testing.T) {
	met := 0
	for _, n := range shaped {
		all := made(t, n.s, ruled(n.s.Bytes)).Records(api.Id{}, 9, 0)
		for i := range all {
			esi := all[i].Esi
			others := without(all, func(r api.Record) bool { return r.Block == all[i].Block && r.Esi == esi })
			if i%(len(all)/20+1) != 0 || !enough(n.s, others) {
				continue
			}
			met++
			l := cloned(all)
			l[i].Data[i%n.s.Size] ^= 8
			notDecoded(t, "P1301: Data of no object", api.ErrRank, n.s, l...)
		}
	}
	if met < 100 {
		t.Errorf("too few that aren't needed: %d", met)
	}
	// What stands behind the object's bytes in the last symbol is not looked at.
	s := api.Shape{Bytes: 5, Size: 2, Most: 2}
	r := func(block, esi int, data ...byte) api.Record {
		return api.Record{Shape: s, Block: block, Esi: esi, Data: data}
	}
	wants(t, "P1301: other bytes behind", []byte{1, 2, 3, 4, 5}, s, r(0, 0, 1, 2), r(0, 1, 3, 4), r(1, 0, 5, 6))
}

// byWords is what Decode does of a right shape, by the chapter's words.
func byWords(s api.Shape, l []api.Record) ([]byte, api.Errno) {
	var blocks [][]rows.Row
	for b := range split.Blocks(s) {
		var drops []decode.Drop
		for _, r := range l {
			if r.Shape == s && !r.Gone && r.Block == b {
				drops = append(drops, decode.Drop{Esi: r.Esi, Data: r.Data})
			}
		}
		if len(drops) == 0 {
			return nil, api.ErrRank
		}
		source, err := decode.Block(split.K(s, b), s.Size, drops...)
		if err != api.OK {
			return nil, err
		}
		blocks = append(blocks, source)
	}
	return split.Join(s, blocks...)
}

// drawn are about as many records as are needed, in any order, some of them twice, and seldom one that is turned so that it can't be or doesn't count.
func (c *chance) drawn(t *testing.T, o *Object) []api.Record {
	var l []api.Record
	for b := range split.Blocks(o.Shape) {
		k := split.K(o.Shape, b)
		for range max(k+c.next(6)-1, 0) {
			esi := c.next(2 * k)
			if c.next(3) == 0 {
				esi = c.next(api.MaxEsi)
			}
			l = append(l, record(t, o, b, esi))
		}
		l = append(l, record(t, o, b, c.next(k)))
	}
	source := o.Records(api.Id{}, 0, 0)
	l = c.turned(slices.Concat(source[:c.next(len(source)+1)], l))
	at := c.next(len(l))
	switch c.next(12) {
	case 0:
		l[at].Shape.Most++
	case 1:
		l[at].Gone = true
	case 2:
		l[at].Block = c.next(30) - 15
	case 3:
		l[at].Esi = -1 - l[at].Esi
	case 4:
		l[at].Data = append(l[at].Data, 0)
	case 5:
		l[at].Data[0]++
	case 6:
		l = l[:at]
	case 7:
		l = append(l, l[:at]...)
	}
	return l
}

func TestP1301ByItsDefinition(t *testing.T) {
	c := chance(9)
	met := map[api.Errno]int{}
	for range 1500 {
		s := c.shape()
		o := made(t, s, c.bytes(s.Bytes))
		l := c.drawn(t, o)
		want, wantErr := byWords(s, l)
		met[wantErr]++
		if got, err := Decode(s, l...); !slices.Equal(got, want) || err != wantErr {
			t.Fatalf("P1301: Decode of %v, of %d records: %v, error %d; want %v, error %d", s, len(l), got, err, want, wantErr)
		}
	}
	if met[api.OK] < 200 || met[api.ErrRank] < 200 || met[api.ErrArg] < 20 || met[api.ErrSize] < 20 {
		t.Errorf("too few of a kind: %v", met)
	}
}

// Of any records of one object its bytes are told if they are enough, else ErrRank.
func TestP1302BytesAgainOrErrRank(t *testing.T) {
	c := chance(10)
	met := map[bool]int{}
	for range 800 {
		s := c.shape()
		data := c.bytes(s.Bytes)
		o := made(t, s, data)
		var l []api.Record
		for b := range split.Blocks(s) {
			for range split.K(s, b) + c.next(5) {
				l = append(l, record(t, o, b, c.next(split.K(s, b)+5)))
			}
		}
		l = c.turned(l)
		isEnough := enough(s, l)
		met[isEnough]++
		if isEnough {
			wants(t, "P1302: enough", data, s, l...)
		} else {
			notDecoded(t, "P1302: not enough", api.ErrRank, s, l...)
		}
	}
	if met[true] < 100 || met[false] < 100 {
		t.Errorf("too few of a kind: %v", met)
	}
}

func TestP1302Nil(t *testing.T) {
	var o *Object
	for _, b := range append(wrongBlocks(1), 0, 1) {
		for _, esi := range append(slices.Clone(wrongEsis), 0, 1, lastEsi) {
			if got, err := o.Symbol(b, esi); len(got) != 0 || err != api.ErrArg {
				t.Errorf("P1302: Symbol(%d, %d) of nil: %v, error %d; want nothing, ErrArg", b, esi, got, err)
			}
		}
	}
	for _, extra := range []int{0, 1, 100, -1, 101, math.MinInt, math.MaxInt} {
		if got := o.Records(api.Id{Peer: 1, Number: 1}, extra, 1); len(got) != 0 {
			t.Errorf("P1302: Records of nil, %d extra: %v; want nothing", extra, got)
		}
	}
}

// An object that New didn't make, or whose Shape was turned: no call panics.
func TestP1302NoObject(t *testing.T) {
	for _, o := range []*Object{{}, {Shape: api.Shape{Bytes: 5, Size: 2, Most: 2}}} {
		if got, err := o.Symbol(0, 0); len(got) != 0 || err != api.ErrArg {
			t.Errorf("P1302: Symbol of an object without blocks: %v, error %d; want nothing, ErrArg", got, err)
		}
		if got := o.Records(api.Id{}, 3, 0); len(got) != 0 {
			t.Errorf("P1302: Records of an object without blocks: %v; want nothing", got)
		}
	}
	o := made(t, api.Shape{Bytes: 5, Size: 2, Most: 2}, ruled(5))
	for _, s := range append(wrongShapes(), great...) {
		o.Shape = s
		for _, b := range append(wrongBlocks(2), 0, 1) {
			o.Symbol(b, 0)
		}
		o.Records(api.Id{}, math.MaxInt, 0)
	}
}

// shown are symbols of each block of an object, and of its Records.
func shown(t *testing.T, o *Object) [][]byte {
	t.Helper()
	var l [][]byte
	for b := range o.blocks {
		for _, esi := range someEsis(3) {
			l = append(l, slices.Clone(symbol(t, o, b, esi)))
		}
	}
	for _, r := range o.Records(api.Id{}, 2, 0) {
		l = append(l, slices.Clone(r.Data))
	}
	return l
}

func sameBytes(a, b [][]byte) bool {
	return slices.EqualFunc(a, b, func(x, y []byte) bool { return slices.Equal(x, y) })
}

// Two objects answer each its own, whichever is asked ahead, and whichever was made ahead.
func TestP1302NothingInCommon(t *testing.T) {
	c := chance(11)
	for i, n := range shaped {
		other := shaped[(i+1)%len(shaped)].s
		for _, s := range []api.Shape{n.s, other} {
			ours, others := c.bytes(n.s.Bytes), c.bytes(s.Bytes)
			wantA, wantB := shown(t, made(t, n.s, ours)), shown(t, made(t, s, others))
			b, a := made(t, s, others), made(t, n.s, ours)
			for range 2 {
				if !sameBytes(shown(t, a), wantA) || !sameBytes(shown(t, b), wantB) {
					t.Errorf("P1302: of two objects, of %v and %v, one answers other than alone", n.s, s)
				}
			}
			b.Shape = api.Shape{}
			b.Symbol(-1, 0)
			if got := shown(t, a); !sameBytes(got, wantA) || a.Shape != n.s {
				t.Errorf("P1302: with the Shape of one object turned, another, of %v, turned", n.s)
			}
		}
	}
}

// spoil turns all bytes, those in the spare room too.
func spoil(l []byte) {
	l = l[:cap(l)]
	for at := range l {
		l[at] ^= 255
	}
}

// spoilAll turns all records, those in the spare room and those of their Data too.
func spoilAll(l []api.Record) {
	for _, r := range l {
		spoil(r.Data)
	}
	l = l[:cap(l)]
	for i := range l {
		l[i] = api.Record{Id: api.Id{Peer: 9, Number: 9}, Block: 9, Gone: true, Data: []byte{9}}
	}
}

// midst lays a copy of the bytes between others: all of these, and the copy alone, which lies in them.
func midst(l []byte) (longer, inner []byte) {
	longer = slices.Concat([]byte{7, 8, 9}, l, []byte{10, 11, 12})
	return longer, longer[3 : 3+len(l)]
}

// handed lays records in the midst of a longer list, and their Data in the midst of longer ones: the longer Data, the longer list, and what is handed in of it.
func handed(l []api.Record) (data [][]byte, list, inner []api.Record) {
	list = []api.Record{{Block: 1}, {Block: 2}}
	for _, r := range l {
		longer, inside := midst(r.Data)
		r.Data = inside
		data, list = append(data, longer), append(list, r)
	}
	list = append(list, api.Record{Block: 3}, api.Record{Block: 4})
	return data, list, list[2 : 2+len(l)]
}

func TestP1302HandedInStays(t *testing.T) {
	for _, n := range shaped {
		longer, data := midst(ruled(n.s.Bytes))
		was := slices.Clone(longer)
		o := made(t, n.s, data)
		l := o.Records(api.Id{Peer: 1, Number: 2}, 3, 4)
		refused(t, "too short", api.ErrSize, n.s, data[1:])
		if !slices.Equal(longer, was) {
			t.Errorf("P1302: of %v, what New was handed turned", n.s)
		}
		for _, l := range [][]api.Record{l, l[1:n.k[0]], append(passedOver(n.s, len(n.k))[:60], l...), append(cloned(l), api.Record{Shape: n.s, Esi: -1})} {
			whole, list, inner := handed(l)
			wholeWas, listWas, _ := handed(cloned(l))
			Decode(n.s, inner...)
			Decode(api.Shape{}, inner...)
			if !sameBytes(whole, wholeWas) || !same(list, listWas) {
				t.Errorf("P1302: of %v, what Decode was handed turned", n.s)
			}
		}
	}
}

func TestP1302NewKeepsNothing(t *testing.T) {
	for _, n := range shaped {
		data := ruled(n.s.Bytes)
		o := made(t, n.s, data)
		want := shown(t, made(t, n.s, data))
		spoil(data)
		if !sameBytes(shown(t, o), want) || o.Shape != n.s {
			t.Errorf("P1302: an object of %v turned with what had been handed in", n.s)
		}
		// The same place in memory, other bytes.
		if !same(made(t, n.s, data).Records(api.Id{}, 1, 0), recordsOf(t, n.s, data, api.Id{}, 1, 0)) {
			t.Errorf("P1302: New of %v of turned bytes answers as of other ones", n.s)
		}
	}
}

func TestP1302DecodeKeepsNothing(t *testing.T) {
	c := chance(12)
	for _, n := range shaped {
		data, others := c.bytes(n.s.Bytes), c.bytes(n.s.Bytes)
		l := made(t, n.s, data).Records(api.Id{}, 2, 0)
		got, err := Decode(n.s, l...)
		spoilAll(l)
		if !slices.Equal(got, data) || err != api.OK {
			t.Errorf("P1302: Decode of %v turned with what had been handed in: %v, error %d; want %v", n.s, got, err, data)
		}
		notDecoded(t, "P1302: none, behind one that was decoded", api.ErrRank, n.s)
		// The same place in memory, other records.
		copy(l, made(t, n.s, others).Records(api.Id{}, 2, 0))
		wants(t, "P1302: of other records", others, n.s, l...)
	}
}

func TestP1302SymbolAnswersNewMemory(t *testing.T) {
	for _, n := range shaped {
		data := ruled(n.s.Bytes)
		o, other := made(t, n.s, data), made(t, n.s, data)
		want := shown(t, o)
		for b, k := range n.k {
			for _, esi := range someEsis(k) {
				first, again := symbol(t, o, b, esi), symbol(t, o, b, esi)
				was := slices.Clone(again)
				spoil(first)
				if !slices.Equal(again, was) || !slices.Equal(symbol(t, o, b, esi), was) {
					t.Fatalf("P1302: with Symbol(%d, %d) of %v turned, another answer turned", b, esi, n.s)
				}
			}
		}
		if !sameBytes(shown(t, o), want) || !sameBytes(shown(t, other), want) {
			t.Errorf("P1302: with symbols of %v turned, an object turned", n.s)
		}
		if !slices.Equal(data, ruled(n.s.Bytes)) {
			t.Errorf("P1302: with symbols of %v turned, what was handed in turned", n.s)
		}
	}
}

func TestP1302RecordsAnswerNewMemory(t *testing.T) {
	id := api.Id{Peer: 1, Number: 2}
	for _, n := range shaped {
		data := ruled(n.s.Bytes)
		o, other := made(t, n.s, data), made(t, n.s, data)
		want, before := recordsOf(t, n.s, data, id, 2, 3), o.Records(id, 2, 3)
		got := o.Records(id, 2, 3)
		for i := range got {
			spoil(got[i].Data)
			if !same(got[i+1:], want[i+1:]) {
				t.Fatalf("P1302: the Data of record %d of %v share memory with others", i, n.s)
			}
		}
		spoilAll(got)
		if !same(before, want) || !same(o.Records(id, 2, 3), want) || !same(other.Records(id, 2, 3), want) {
			t.Errorf("P1302: with Records of %v turned, other answers turned", n.s)
		}
		if !slices.Equal(data, ruled(n.s.Bytes)) || o.Shape != n.s {
			t.Errorf("P1302: with Records of %v turned, what was handed in turned", n.s)
		}
	}
}

func TestP1302DecodeAnswersNewMemory(t *testing.T) {
	for _, n := range shaped {
		data := ruled(n.s.Bytes)
		l := made(t, n.s, data).Records(api.Id{}, 2, 0)
		was := cloned(l)
		first, _ := Decode(n.s, l...)
		again, _ := Decode(n.s, l...)
		spoil(first)
		if !slices.Equal(again, data) || !same(l, was) {
			t.Errorf("P1302: with the bytes of Decode of %v turned, another answer or what was handed in turned", n.s)
		}
		wants(t, "P1302: behind an answer that was turned", data, n.s, l...)
	}
}

// Data may be one and the same, and lie over one another.
func TestP1302DataThatShareMemory(t *testing.T) {
	s := api.Shape{Bytes: 11, Size: 3, Most: 2}
	long := []byte{1, 2, 3, 4}
	var l []api.Record
	for b := range 2 {
		for esi := range 2 {
			l = append(l, api.Record{Shape: s, Block: b, Esi: esi, Data: long[esi : esi+3]})
		}
	}
	wants(t, "P1302: Data that share memory", []byte{1, 2, 3, 2, 3, 4, 1, 2, 3, 2, 3}, s, l...)
}

// answer is all that the calls answer of a shape, of bytes and of records.
type answer struct {
	shape              api.Shape
	symbols            [][]byte
	symbolErrs         []api.Errno
	records            []api.Record
	data               []byte
	newErr, decodesErr api.Errno
}

func (a answer) is(b answer) bool {
	return a.shape == b.shape && sameBytes(a.symbols, b.symbols) && slices.Equal(a.symbolErrs, b.symbolErrs) && same(a.records, b.records) &&
		slices.Equal(a.data, b.data) && a.newErr == b.newErr && a.decodesErr == b.decodesErr
}

// asked is what is handed in.
type asked struct {
	s    api.Shape
	data []byte
	l    []api.Record
}

// asks are right ones of many shapes, and all kinds of wrong ones.
func asks(t *testing.T) []asked {
	var l []asked
	for i, n := range shaped {
		data := ruled(n.s.Bytes)
		all := made(t, n.s, data).Records(api.Id{Peer: i, Number: i}, 3, i)
		l = append(l, asked{n.s, data, all}, asked{n.s, data[1:], all[1:]}, asked{n.s, append(data, 0), all[:1]})
		l = append(l, asked{n.s, nil, append(all, api.Record{Shape: n.s, Esi: -1})}, asked{wrongShapes()[i], data, all})
	}
	return l
}

func ask(a asked) answer {
	var got answer
	o, err := New(a.s, a.data)
	got.newErr = err
	if o != nil {
		got.shape = o.Shape
	}
	for _, b := range []int{0, 1, -1, 2, 30} {
		for _, esi := range []int{0, lastEsi, -1, 40, api.MaxEsi, 7} {
			data, err := o.Symbol(b, esi)
			got.symbols, got.symbolErrs = append(got.symbols, data), append(got.symbolErrs, err)
		}
	}
	got.records = o.Records(api.Id{Peer: 4, Number: 5}, 3, 6)
	got.data, got.decodesErr = Decode(a.s, a.l...)
	return got
}

func askAll(l []asked) []answer {
	var got []answer
	for _, a := range l {
		got = append(got, ask(a))
	}
	return got
}

func TestP1302AnswersHangOnArgumentsAlone(t *testing.T) {
	l := asks(t)
	first := askAll(l)
	if again := askAll(asks(t)); !slices.EqualFunc(first, again, answer.is) {
		t.Error("P1302: asked again: other answers than at first")
	}
	for i, a := range slices.Backward(l) {
		got, again := ask(a), ask(a)
		if !got.is(first[i]) || !again.is(first[i]) {
			t.Errorf("P1302: of %v, asked in another order, and twice: other answers than at first", a.s)
		}
	}
}

func TestP1302OneObjectInAnyOrder(t *testing.T) {
	s := api.Shape{Bytes: 41, Size: 4, Most: 10}
	o := made(t, s, ruled(41))
	records := o.Records(api.Id{}, 1, 2)
	esis := append(someEsis(6), wrongEsis...)
	var want [][]byte
	for _, esi := range esis {
		data, _ := o.Symbol(1, esi)
		want = append(want, data)
	}
	for i, esi := range slices.Backward(esis) {
		got, _ := o.Symbol(1, esi)
		o.Symbol(0, esi)
		again, _ := o.Symbol(1, esi)
		if !slices.Equal(got, want[i]) || !slices.Equal(again, want[i]) {
			t.Errorf("P1302: Symbol(1, %d) of %v, asked again: %v, %v; at first %v", esi, s, got, again, want[i])
		}
		o.Records(api.Id{Peer: i, Number: i}, i, i)
		if got := o.Records(api.Id{}, 1, 2); !same(got, records) {
			t.Errorf("P1302: Records of %v, asked again: %v; at first %v", s, got, records)
		}
	}
}

func TestP1302AskedAtOnce(t *testing.T) {
	l := asks(t)
	want := askAll(l)
	o := made(t, shaped[7].s, ruled(shaped[7].s.Bytes))
	wantShown := shown(t, o)
	got, gotShown := make([][]answer, 4), make([][][]byte, 4)
	var asking sync.WaitGroup
	for i := range got {
		asking.Go(func() {
			got[i] = askAll(l)
			for b := range o.blocks {
				for _, esi := range someEsis(3) {
					data, _ := o.Symbol(b, esi)
					gotShown[i] = append(gotShown[i], data)
				}
			}
			for _, r := range o.Records(api.Id{}, 2, 0) {
				gotShown[i] = append(gotShown[i], r.Data)
			}
		})
	}
	asking.Wait()
	for i := range got {
		if !slices.EqualFunc(got[i], want, answer.is) || !sameBytes(gotShown[i], wantShown) {
			t.Errorf("P1302: asked by others at once, %d: other answers than at first", i)
		}
	}
}
