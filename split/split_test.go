package split

import (
	"math"
	"slices"
	"sync"
	"testing"

	"fountain/api"
	"fountain/rows"
)

// shaped are right shapes of which the numbers were worked out by hand: how many symbols, and how many of them each block has.
var shaped = []struct {
	s       api.Shape
	symbols int
	k       []int
}{
	{api.Shape{Bytes: 5, Size: 2, Most: 2}, 3, []int{2, 1}},
	{api.Shape{Bytes: 1, Size: 1, Most: 1}, 1, []int{1}},
	{api.Shape{Bytes: 1, Size: api.MaxSize, Most: api.MaxK}, 1, []int{1}},
	{api.Shape{Bytes: 1, Size: api.MaxSize, Most: 1}, 1, []int{1}},
	{api.Shape{Bytes: 1, Size: 1, Most: api.MaxK}, 1, []int{1}},
	{api.Shape{Bytes: 2, Size: 1, Most: 1}, 2, []int{1, 1}},
	{api.Shape{Bytes: 2, Size: 2, Most: 1}, 1, []int{1}},
	{api.Shape{Bytes: 3, Size: 2, Most: 1}, 2, []int{1, 1}},
	// As many symbols as a block may have at most, and one more or less.
	{api.Shape{Bytes: 39, Size: 1, Most: api.MaxK}, 39, []int{39}},
	{api.Shape{Bytes: 40, Size: 1, Most: api.MaxK}, 40, []int{40}},
	{api.Shape{Bytes: 41, Size: 1, Most: api.MaxK}, 41, []int{21, 20}},
	{api.Shape{Bytes: 79, Size: 2, Most: api.MaxK}, 40, []int{40}},
	{api.Shape{Bytes: 80, Size: 2, Most: api.MaxK}, 40, []int{40}},
	{api.Shape{Bytes: 81, Size: 2, Most: api.MaxK}, 41, []int{21, 20}},
	{api.Shape{Bytes: 80, Size: 1, Most: api.MaxK}, 80, []int{40, 40}},
	{api.Shape{Bytes: 81, Size: 1, Most: api.MaxK}, 81, []int{27, 27, 27}},
	{api.Shape{Bytes: 82, Size: 1, Most: api.MaxK}, 82, []int{28, 27, 27}},
	{api.Shape{Bytes: 83, Size: 1, Most: api.MaxK}, 83, []int{28, 28, 27}},
	// The last symbol is full, or has one byte alone.
	{api.Shape{Bytes: 30, Size: 10, Most: 2}, 3, []int{2, 1}},
	{api.Shape{Bytes: 31, Size: 10, Most: 2}, 4, []int{2, 2}},
	{api.Shape{Bytes: 40, Size: 10, Most: 2}, 4, []int{2, 2}},
	{api.Shape{Bytes: 41, Size: 10, Most: 2}, 5, []int{2, 2, 1}},
	{api.Shape{Bytes: 22, Size: 1, Most: 5}, 22, []int{5, 5, 4, 4, 4}},
	{api.Shape{Bytes: 9, Size: 1, Most: 8}, 9, []int{5, 4}},
	{api.Shape{Bytes: api.MaxObject, Size: api.MaxSize, Most: api.MaxK}, 63, []int{32, 31}},
	{api.Shape{Bytes: api.MaxObject, Size: 63, Most: api.MaxK}, 64, []int{32, 32}},
	{api.Shape{Bytes: api.MaxObject, Size: api.MaxSize, Most: 1}, 63, slices.Repeat([]int{1}, 63)},
	{api.Shape{Bytes: api.MaxObject, Size: api.MaxSize, Most: 20}, 63, []int{16, 16, 16, 15}},
	{api.Shape{Bytes: api.MaxObject, Size: 1, Most: api.MaxK}, 4000, slices.Repeat([]int{40}, 100)},
	{api.Shape{Bytes: api.MaxObject, Size: 1, Most: 1}, 4000, slices.Repeat([]int{1}, 4000)},
	{api.Shape{Bytes: api.MaxObject - 1, Size: 1, Most: api.MaxK}, 3999, append(slices.Repeat([]int{40}, 99), 39)},
}

// wrongOf are numbers that are not from 1 to most, the nearest ones ahead.
func wrongOf(most int) []int {
	return []int{
		0, most + 1, -1, -2, -most, most + 2, 2 * most, 1 << 16, 1 << 32, 1<<32 + 1, -1<<32 + 1,
		math.MinInt, math.MinInt + 1, math.MaxInt, math.MaxInt - 1,
	}
}

// wrongShapes are some of which one number is wrong, two are, or all.
func wrongShapes() []api.Shape {
	var l []api.Shape
	for _, good := range []api.Shape{{Bytes: 1, Size: 1, Most: 1}, {Bytes: 5, Size: 2, Most: 2}, {Bytes: api.MaxObject, Size: api.MaxSize, Most: api.MaxK}} {
		bytes, sizes, mosts := wrongOf(api.MaxObject), wrongOf(api.MaxSize), wrongOf(api.MaxK)
		for i := range bytes {
			b, s, m := bytes[i], sizes[i], mosts[i]
			l = append(l,
				api.Shape{Bytes: b, Size: good.Size, Most: good.Most},
				api.Shape{Bytes: good.Bytes, Size: s, Most: good.Most},
				api.Shape{Bytes: good.Bytes, Size: good.Size, Most: m},
				api.Shape{Bytes: b, Size: s, Most: good.Most},
				api.Shape{Bytes: b, Size: good.Size, Most: m},
				api.Shape{Bytes: good.Bytes, Size: s, Most: m},
				api.Shape{Bytes: b, Size: s, Most: m},
				api.Shape{Bytes: bytes[len(bytes)-1-i], Size: s, Most: m})
		}
	}
	return l
}

// wrongBlocks are numbers of no block, of blocks that there are so many.
func wrongBlocks(blocks int) []int {
	return []int{
		blocks, -1, blocks + 1, -2, -blocks, 2 * blocks, 1 << 32, -1 << 32,
		math.MinInt, math.MinInt + 1, math.MaxInt, math.MaxInt - 1,
	}
}

// drawn answers n bytes that follow no rule that shows, none of them 0.
func drawn(n, seed int) []byte {
	x := uint32(seed)*2654435761 + 12345
	l := make([]byte, n)
	for i := range l {
		x = x*1664525 + 1013904223
		l[i] = byte(x>>20)%255 + 1
	}
	return l
}

// counted is how many steps of that many reach at least to the end.
func counted(end, step int) int {
	n := 0
	for at := 0; at < end; at += step {
		n++
	}
	return n
}

// dealt gives the symbols to the blocks, one to each in turn, till there are none: how many each has got.
func dealt(symbols, blocks int) []int {
	k := make([]int, blocks)
	for i := range symbols {
		k[i%blocks]++
	}
	return k
}

// cutByWords is what Cut must answer, byte by byte.
func cutByWords(s api.Shape, data []byte) [][]rows.Row {
	symbols := counted(s.Bytes, s.Size)
	padded := append(slices.Clone(data), make([]byte, symbols*s.Size-s.Bytes)...)
	var blocks [][]rows.Row
	for _, k := range dealt(symbols, counted(symbols, s.Most)) {
		var block []rows.Row
		for range k {
			block = append(block, slices.Clone(padded[:s.Size]))
			padded = padded[s.Size:]
		}
		blocks = append(blocks, block)
	}
	return blocks
}

func sameRows(a, b []rows.Row) bool {
	return slices.EqualFunc(a, b, func(x, y rows.Row) bool { return slices.Equal(x, y) })
}

func same(a, b [][]rows.Row) bool {
	return slices.EqualFunc(a, b, sameRows)
}

// cutOf is Cut of data that can be cut.
func cutOf(t *testing.T, s api.Shape, data []byte) [][]rows.Row {
	t.Helper()
	blocks, err := Cut(s, data)
	if err != api.OK {
		t.Fatalf("P1201: Cut of %v: error %d", s, err)
	}
	return blocks
}

// joined is Join of blocks that can be joined.
func joined(t *testing.T, s api.Shape, blocks ...[]rows.Row) []byte {
	t.Helper()
	data, err := Join(s, blocks...)
	if err != api.OK {
		t.Fatalf("P1201: Join of %v: error %d", s, err)
	}
	return data
}

// notCut tells where Cut answers anything but the error.
func notCut(t *testing.T, name string, want api.Errno, s api.Shape, data []byte) {
	t.Helper()
	if blocks, err := Cut(s, data); len(blocks) != 0 || err != want {
		t.Errorf("P1201: %s: Cut of %v, of %d bytes: %d blocks, error %d; want none, error %d", name, s, len(data), len(blocks), err, want)
	}
}

// notJoined tells where Join answers anything but the error.
func notJoined(t *testing.T, name string, want api.Errno, s api.Shape, blocks ...[]rows.Row) {
	t.Helper()
	if data, err := Join(s, blocks...); len(data) != 0 || err != want {
		t.Errorf("P1201: %s: Join of %v, of %d blocks: %d bytes, error %d; want none, error %d", name, s, len(blocks), len(data), err, want)
	}
}

func TestP1201KnownShapes(t *testing.T) {
	for _, n := range shaped {
		if !Right(n.s) {
			t.Errorf("P1201: %v is not Right", n.s)
		}
		if got := Symbols(n.s); got != n.symbols {
			t.Errorf("P1201: Symbols of %v: %d; want %d", n.s, got, n.symbols)
		}
		if got := Blocks(n.s); got != len(n.k) {
			t.Errorf("P1201: Blocks of %v: %d; want %d", n.s, got, len(n.k))
		}
		for b, want := range n.k {
			if got := K(n.s, b); got != want {
				t.Errorf("P1201: K of %v, block %d: %d; want %d", n.s, b, got, want)
			}
		}
		for _, b := range wrongBlocks(len(n.k)) {
			if got := K(n.s, b); got != 0 {
				t.Errorf("P1201: K of %v, block %d of %d: %d; want 0", n.s, b, len(n.k), got)
			}
		}
	}
}

// Each number of bytes with each size.
func TestP1201Symbols(t *testing.T) {
	for size := 1; size <= api.MaxSize; size++ {
		for bytes := 1; bytes <= api.MaxObject; bytes++ {
			s := api.Shape{Bytes: bytes, Size: size, Most: 1 + bytes%api.MaxK}
			if got, want := Symbols(s), counted(bytes, size); !Right(s) || got != want {
				t.Fatalf("P1201: of %v: Right %v, Symbols %d; want %d", s, Right(s), got, want)
			}
		}
	}
}

// Each number of symbols with each that a block may have at most.
func TestP1201Blocks(t *testing.T) {
	for most := 1; most <= api.MaxK; most++ {
		for symbols := 1; symbols <= api.MaxObject; symbols++ {
			s := api.Shape{Bytes: symbols, Size: 1, Most: most}
			if got, want := Blocks(s), counted(symbols, most); !Right(s) || got != want {
				t.Fatalf("P1201: of %v: Right %v, Blocks %d; want %d", s, Right(s), got, want)
			}
		}
	}
}

func TestP1201K(t *testing.T) {
	for most := 1; most <= api.MaxK; most++ {
		for bytes := 1; bytes <= api.MaxObject; bytes += 1 + bytes/16 {
			for _, size := range []int{1, 2, 7, api.MaxSize - 1, api.MaxSize} {
				s := api.Shape{Bytes: bytes, Size: size, Most: most}
				symbols := counted(bytes, size)
				k := dealt(symbols, counted(symbols, most))
				for b, want := range k {
					if got := K(s, b); got != want {
						t.Fatalf("P1201: K of %v, block %d: %d; want %d", s, b, got, want)
					}
				}
				if K(s, -1) != 0 || K(s, len(k)) != 0 {
					t.Fatalf("P1201: of %v, K of the block ahead of the first %d, behind the last %d; want 0", s, K(s, -1), K(s, len(k)))
				}
			}
		}
	}
}

func TestP1201NotRight(t *testing.T) {
	block := []rows.Row{{1}}
	for _, s := range append(wrongShapes(), api.Shape{}) {
		if Right(s) || Symbols(s) != 0 || Blocks(s) != 0 {
			t.Errorf("P1201: of %v: Right %v, Symbols %d, Blocks %d; want false, 0, 0", s, Right(s), Symbols(s), Blocks(s))
		}
		for _, b := range append(wrongBlocks(1), 0, 1, 2) {
			if got := K(s, b); got != 0 {
				t.Errorf("P1201: K of %v, block %d: %d; want 0", s, b, got)
			}
		}
		// The shape is looked at ahead of the bytes and the blocks, whether these could be or not.
		for _, n := range []int{0, 1, 5, api.MaxObject, api.MaxObject + 1, min(max(s.Bytes, 0), 9000)} {
			notCut(t, "not right", api.ErrArg, s, make([]byte, n))
		}
		notCut(t, "not right", api.ErrArg, s, nil)
		notJoined(t, "not right", api.ErrArg, s)
		notJoined(t, "not right", api.ErrArg, s, nil)
		notJoined(t, "not right", api.ErrArg, s, block)
		notJoined(t, "not right", api.ErrArg, s, []rows.Row{{1, 2}, {3, 4}}, []rows.Row{{5, 0}})
		notJoined(t, "not right", api.ErrArg, s, block, nil, block)
	}
}

func TestP1201KnownCuts(t *testing.T) {
	for _, n := range []struct {
		s      api.Shape
		data   []byte
		blocks [][]rows.Row
	}{
		{api.Shape{Bytes: 5, Size: 2, Most: 2}, []byte{1, 2, 3, 4, 5}, [][]rows.Row{{{1, 2}, {3, 4}}, {{5, 0}}}},
		{api.Shape{Bytes: 6, Size: 2, Most: 2}, []byte{1, 2, 3, 4, 5, 6}, [][]rows.Row{{{1, 2}, {3, 4}}, {{5, 6}}}},
		{api.Shape{Bytes: 7, Size: 2, Most: 2}, []byte{1, 2, 3, 4, 5, 6, 7}, [][]rows.Row{{{1, 2}, {3, 4}}, {{5, 6}, {7, 0}}}},
		{api.Shape{Bytes: 5, Size: 2, Most: 3}, []byte{9, 0, 0, 8, 7}, [][]rows.Row{{{9, 0}, {0, 8}, {7, 0}}}},
		{api.Shape{Bytes: 5, Size: 1, Most: 3}, []byte{1, 2, 3, 4, 5}, [][]rows.Row{{{1}, {2}, {3}}, {{4}, {5}}}},
		{api.Shape{Bytes: 5, Size: 5, Most: 1}, []byte{1, 2, 3, 4, 5}, [][]rows.Row{{{1, 2, 3, 4, 5}}}},
		{api.Shape{Bytes: 3, Size: 8, Most: 9}, []byte{1, 2, 3}, [][]rows.Row{{{1, 2, 3, 0, 0, 0, 0, 0}}}},
		{api.Shape{Bytes: 4, Size: 3, Most: 1}, []byte{255, 0, 1, 254}, [][]rows.Row{{{255, 0, 1}}, {{254, 0, 0}}}},
		{api.Shape{Bytes: 1, Size: 1, Most: 1}, []byte{0}, [][]rows.Row{{{0}}}},
	} {
		if got := cutOf(t, n.s, n.data); !same(got, n.blocks) {
			t.Errorf("P1201: Cut of %v: %v; want %v", n.s, got, n.blocks)
		}
		if got := joined(t, n.s, n.blocks...); !slices.Equal(got, n.data) {
			t.Errorf("P1201: Join of %v: %v; want %v", n.s, got, n.data)
		}
	}
}

// cutAndJoined holds Cut against the words, and Join against what was cut.
func cutAndJoined(t *testing.T, s api.Shape) {
	t.Helper()
	data := drawn(s.Bytes, s.Bytes+s.Size+s.Most)
	want := cutByWords(s, data)
	if got := cutOf(t, s, data); !same(got, want) {
		t.Fatalf("P1201: Cut of %v: %v; want %v", s, got, want)
	}
	if got := joined(t, s, want...); !slices.Equal(got, data) {
		t.Fatalf("P1201: Join of %v: %v; want %v", s, got, data)
	}
}

func TestP1201CutAndJoined(t *testing.T) {
	for _, n := range shaped {
		cutAndJoined(t, n.s)
	}
	for size := 1; size <= api.MaxSize; size++ {
		for most := 1; most <= api.MaxK; most++ {
			// Below a block, a block, more than one, each with a last symbol that is full and with ones that are not.
			for _, symbols := range []int{1, most, most + 1, 3*most + 1} {
				full := symbols * size
				for _, bytes := range []int{full - size + 1, full - 1, full} {
					cutAndJoined(t, api.Shape{Bytes: min(max(bytes, 1), api.MaxObject), Size: size, Most: most})
				}
			}
		}
	}
}

// What stands behind the Bytes first bytes is not looked at.
func TestP1201JoinOfOtherBytesBehind(t *testing.T) {
	for _, n := range shaped {
		data := drawn(n.s.Bytes, n.s.Bytes)
		blocks := cutByWords(n.s, data)
		block := blocks[len(blocks)-1]
		row := block[len(block)-1]
		for at := n.s.Bytes - (n.symbols-1)*n.s.Size; at < n.s.Size; at++ {
			row[at] = byte(at + 1)
		}
		if got := joined(t, n.s, blocks...); !slices.Equal(got, data) {
			t.Errorf("P1201: Join of %v with other bytes behind: %v; want %v", n.s, got, data)
		}
	}
}

func TestP1201CutOfOtherBytes(t *testing.T) {
	for _, n := range shaped {
		bytes := n.s.Bytes
		for _, wrong := range []int{0, 1, bytes - 1, bytes + 1, bytes + n.s.Size, n.symbols * n.s.Size, 2 * bytes, api.MaxObject, api.MaxObject + 1} {
			if wrong != bytes {
				notCut(t, "of other bytes", api.ErrSize, n.s, drawn(wrong, wrong))
			}
		}
		notCut(t, "nil", api.ErrSize, n.s, nil)
		notCut(t, "of spare room", api.ErrSize, n.s, drawn(bytes, 0)[:bytes-1])
	}
}

func TestP1201JoinOfOtherBlocks(t *testing.T) {
	for _, n := range shaped {
		whole := func() [][]rows.Row { return cutByWords(n.s, drawn(n.s.Bytes, 1)) }
		blocks := whole()
		last := len(blocks) - 1
		notJoined(t, "no blocks", api.ErrSize, n.s)
		notJoined(t, "an empty list", api.ErrSize, n.s, [][]rows.Row{}...)
		notJoined(t, "one too few", api.ErrSize, n.s, blocks[:last]...)
		notJoined(t, "the first one too few", api.ErrSize, n.s, blocks[1:]...)
		notJoined(t, "one too many", api.ErrSize, n.s, append(whole(), blocks[last])...)
		notJoined(t, "a nil one too many", api.ErrSize, n.s, append(whole(), nil)...)
		notJoined(t, "a nil one ahead", api.ErrSize, n.s, append([][]rows.Row{nil}, blocks...)...)
		notJoined(t, "nil ones", api.ErrSize, n.s, make([][]rows.Row, len(blocks))...)
		notJoined(t, "all twice", api.ErrSize, n.s, append(whole(), blocks...)...)
		if len(blocks[0]) != len(blocks[last]) {
			slices.Reverse(blocks)
			notJoined(t, "turned around", api.ErrSize, n.s, blocks...)
		}
	}
}

func TestP1201JoinOfAnotherNumberOfRows(t *testing.T) {
	for _, n := range shaped {
		for _, b := range []int{0, len(n.k) / 2, len(n.k) - 1} {
			blocks := cutByWords(n.s, drawn(n.s.Bytes, 1))
			block := blocks[b]
			for name, wrong := range map[string][]rows.Row{
				"nil":             nil,
				"empty":           {},
				"one too few":     block[:len(block)-1],
				"the first less":  block[1:],
				"one too many":    append(slices.Clone(block), block[0]),
				"a nil one more":  append(slices.Clone(block), nil),
				"a nil one ahead": append([]rows.Row{nil}, block...),
				"all twice":       append(slices.Clone(block), block...),
			} {
				blocks[b] = wrong
				notJoined(t, name, api.ErrSize, n.s, blocks...)
			}
		}
	}
	// A row that a block lacks is not made up for by one that another has too many.
	s := api.Shape{Bytes: 8, Size: 2, Most: 2}
	notJoined(t, "one too few and one too many", api.ErrSize, s, []rows.Row{{1, 2}}, []rows.Row{{3, 4}, {5, 6}, {7, 8}})
	notJoined(t, "one too many and one too few", api.ErrSize, s, []rows.Row{{1, 2}, {3, 4}, {5, 6}}, []rows.Row{{7, 8}})
}

func TestP1201JoinOfAnotherRow(t *testing.T) {
	for _, n := range shaped {
		size := n.s.Size
		blocks := cutByWords(n.s, drawn(n.s.Bytes, 1))
		for _, b := range []int{0, len(blocks) / 2, len(blocks) - 1} {
			for _, i := range []int{0, len(blocks[b]) / 2, len(blocks[b]) - 1} {
				row := blocks[b][i]
				for _, wrong := range []rows.Row{
					nil, {}, row[:size-1], row[1:], append(slices.Clone(row), 0), append(rows.Row{0}, row...), make(rows.Row, 2*size), make(rows.Row, 1000),
				} {
					blocks[b][i] = wrong
					notJoined(t, "another row", api.ErrSize, n.s, blocks...)
				}
				blocks[b][i] = row
			}
		}
		// Not even the last row may have the data's bytes alone.
		block := blocks[len(blocks)-1]
		if left := n.s.Bytes - (n.symbols-1)*size; left < size {
			block[len(block)-1] = block[len(block)-1][:left]
			notJoined(t, "a last row without its bytes 0", api.ErrSize, n.s, blocks...)
		}
	}
	// An element that a row lacks is not made up for by one that another has too many.
	s := api.Shape{Bytes: 4, Size: 2, Most: 2}
	notJoined(t, "one too few and one too many", api.ErrSize, s, []rows.Row{{1}, {2, 3, 4}})
	notJoined(t, "one too many and one too few", api.ErrSize, s, []rows.Row{{1, 2, 3}, {4}})
}

// spoil turns all bytes, those in the spare room too.
func spoil(l []byte) {
	l = l[:cap(l)]
	for at := range l {
		l[at] ^= 255
	}
}

// midst lays a copy of the bytes between others: all of these, and the copy alone, which lies in them.
func midst(l []byte) (longer, inner []byte) {
	longer = slices.Concat([]byte{7, 8, 9}, l, []byte{10, 11, 12})
	return longer, longer[3 : 3+len(l)]
}

// handed are the blocks of data, rows and lists each in the midst of longer ones: the longer list of blocks, the longer lists of rows, the longer rows, and what is handed in of them.
func handed(s api.Shape, data []byte) (lists [][]rows.Row, l []rows.Row, blocks [][]rows.Row) {
	lists = append(lists, []rows.Row{{1}})
	for _, block := range cutByWords(s, data) {
		longer := []rows.Row{{2}, {3}}
		for _, row := range block {
			whole, inner := midst(row)
			longer = append(longer, inner)
			l = append(l, whole)
		}
		longer = append(longer, rows.Row{4}, rows.Row{5})
		lists = append(lists, longer[2:2+len(block)])
		l = append(l, longer...)
	}
	lists = append(lists, []rows.Row{{6}})
	return lists, l, lists[1 : len(lists)-1]
}

func TestP1202HandedInStays(t *testing.T) {
	for _, n := range shaped {
		data := drawn(n.s.Bytes, 3)
		longer, inner := midst(data)
		was := slices.Clone(longer)
		cutOf(t, n.s, inner)
		notCut(t, "too short", api.ErrSize, n.s, inner[1:])
		if !slices.Equal(longer, was) {
			t.Errorf("P1202: of %v, what Cut was handed turned", n.s)
		}
		lists, l, blocks := handed(n.s, data)
		listsWas, lWas, _ := handed(n.s, data)
		joined(t, n.s, blocks...)
		notJoined(t, "too few", api.ErrSize, n.s, blocks[1:]...)
		if !same(lists, listsWas) || !sameRows(l, lWas) {
			t.Errorf("P1202: of %v, what Join was handed turned", n.s)
		}
		for i, block := range lists {
			if !sameRows(block[:cap(block)], listsWas[i][:cap(listsWas[i])]) {
				t.Errorf("P1202: of %v, the spare room of block %d turned", n.s, i)
			}
		}
	}
}

func TestP1202CutKeepsNothing(t *testing.T) {
	for _, n := range shaped {
		data := drawn(n.s.Bytes, 3)
		want := cutByWords(n.s, data)
		got := cutOf(t, n.s, data)
		spoil(data)
		if !same(got, want) {
			t.Errorf("P1202: Cut of %v turned with what had been handed in", n.s)
		}
		// The same place in memory, other bytes.
		if got := cutOf(t, n.s, data); !same(got, cutByWords(n.s, data)) {
			t.Errorf("P1202: Cut of %v of turned bytes: %v", n.s, got)
		}
	}
}

func TestP1202JoinKeepsNothing(t *testing.T) {
	for _, n := range shaped {
		want := drawn(n.s.Bytes, 3)
		blocks := cutByWords(n.s, want)
		got := joined(t, n.s, blocks...)
		for _, block := range blocks {
			for _, row := range block {
				spoil(row)
			}
		}
		if !slices.Equal(got, want) {
			t.Errorf("P1202: Join of %v turned with what had been handed in", n.s)
		}
		turned := slices.Clone(want)
		spoil(turned[:len(turned):len(turned)])
		if got := joined(t, n.s, blocks...); !slices.Equal(got, turned) {
			t.Errorf("P1202: Join of %v of turned rows: %v; want %v", n.s, got, turned)
		}
	}
}

// Each row, each block's list and the list of blocks may be turned, and filled up to their room, each alone.
func TestP1202CutAnswersNewMemory(t *testing.T) {
	for _, n := range shaped {
		if len(n.k) > 100 {
			continue
		}
		data := drawn(n.s.Bytes, 3)
		was := slices.Clone(data)
		want := cutByWords(n.s, data)
		other := cutOf(t, n.s, data)
		got := cutOf(t, n.s, data)
		for b, block := range got {
			for i, row := range block {
				spoil(row)
				if !slices.Equal(data, was) || !same(other, want) {
					t.Fatalf("P1202: with row %d of block %d of Cut of %v turned, what was handed in or another answer turned", i, b, n.s)
				}
				copy(row, want[b][i])
				if !same(got, want) {
					t.Fatalf("P1202: row %d of block %d of Cut of %v shares memory with another", i, b, n.s)
				}
			}
		}
		for b, block := range got {
			block = block[:cap(block)]
			for i := range block {
				block[i] = rows.Row{1, 2, 3}
			}
			got[b] = want[b]
			if !same(got, want) || !same(other, want) {
				t.Fatalf("P1202: the list of block %d of Cut of %v shares memory with another", b, n.s)
			}
		}
		clear(got[:cap(got)])
		if again := cutOf(t, n.s, data); !same(other, want) || !same(again, want) || !slices.Equal(data, was) {
			t.Errorf("P1202: with the blocks of Cut of %v turned, a later answer turned", n.s)
		}
	}
}

func TestP1202JoinAnswersNewMemory(t *testing.T) {
	for _, n := range shaped {
		want := drawn(n.s.Bytes, 3)
		lists, l, blocks := handed(n.s, want)
		listsWas, lWas, _ := handed(n.s, want)
		other := joined(t, n.s, blocks...)
		spoil(joined(t, n.s, blocks...))
		if !same(lists, listsWas) || !sameRows(l, lWas) {
			t.Errorf("P1202: with the bytes of Join of %v turned, what was handed in turned", n.s)
		}
		if again := joined(t, n.s, blocks...); !slices.Equal(other, want) || !slices.Equal(again, want) {
			t.Errorf("P1202: with the bytes of Join of %v turned, another answer turned", n.s)
		}
	}
}

// Rows that are handed in may be one and the same, and lie over one another; so may blocks.
func TestP1202JoinOfWhatSharesMemory(t *testing.T) {
	s := api.Shape{Bytes: 11, Size: 3, Most: 2}
	long := rows.Row{1, 2, 3, 4}
	block := []rows.Row{long[:3], long[1:]}
	if got, want := joined(t, s, block, block), []byte{1, 2, 3, 2, 3, 4, 1, 2, 3, 2, 3}; !slices.Equal(got, want) {
		t.Errorf("P1202: Join of one block twice: %v; want %v", got, want)
	}
}

// answer is all that the calls answer of a shape, of data and of the blocks that these are by the words.
type answer struct {
	right            bool
	symbols, blocks  int
	k                []int
	cut              [][]rows.Row
	data             []byte
	cutErr, joinsErr api.Errno
}

func (a answer) is(b answer) bool {
	return a.right == b.right && a.symbols == b.symbols && a.blocks == b.blocks && slices.Equal(a.k, b.k) &&
		same(a.cut, b.cut) && slices.Equal(a.data, b.data) && a.cutErr == b.cutErr && a.joinsErr == b.joinsErr
}

// asked is what is handed in.
type asked struct {
	s      api.Shape
	data   []byte
	blocks [][]rows.Row
}

// asks are right ones of many shapes, and all kinds of wrong ones.
func asks() []asked {
	var l []asked
	for i, n := range shaped {
		data := drawn(n.s.Bytes, i)
		l = append(l, asked{n.s, data, cutByWords(n.s, data)})
		l = append(l, asked{n.s, data[1:], cutByWords(n.s, data)[1:]})
	}
	for _, s := range wrongShapes()[:20] {
		l = append(l, asked{s, drawn(5, 5), [][]rows.Row{{{1, 2}, {3, 4}}, {{5, 6}}}})
	}
	return l
}

func ask(a asked) answer {
	got := answer{right: Right(a.s), symbols: Symbols(a.s), blocks: Blocks(a.s)}
	for b := -1; b <= 100; b++ {
		got.k = append(got.k, K(a.s, b))
	}
	got.cut, got.cutErr = Cut(a.s, a.data)
	got.data, got.joinsErr = Join(a.s, a.blocks...)
	return got
}

func askAll(l []asked) []answer {
	var got []answer
	for _, a := range l {
		got = append(got, ask(a))
	}
	return got
}

func TestP1202AnswersHangOnArgumentsAlone(t *testing.T) {
	l := asks()
	first := askAll(l)
	if again := askAll(asks()); !slices.EqualFunc(first, again, answer.is) {
		t.Error("P1202: asked again: other answers than at first")
	}
	for i, a := range slices.Backward(l) {
		got, again := ask(a), ask(a)
		if !got.is(first[i]) || !again.is(first[i]) {
			t.Errorf("P1202: of %v, asked in another order, and twice: other answers than at first", a.s)
		}
	}
}

func TestP1202AskedAtOnce(t *testing.T) {
	l := asks()
	want := askAll(l)
	got := make([][]answer, 4)
	var all sync.WaitGroup
	for i := range got {
		all.Go(func() { got[i] = askAll(l) })
	}
	all.Wait()
	for i := range got {
		if !slices.EqualFunc(got[i], want, answer.is) {
			t.Errorf("P1202: asked by others at once, %d: other answers than at first", i)
		}
	}
}
