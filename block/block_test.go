package block

import (
	"math"
	"slices"
	"sync"
	"testing"

	"fountain/api"
	"fountain/drops"
	"fountain/params"
	"fountain/precode"
	"fountain/rows"
	"fountain/seed"
	"fountain/solve"
)

const lastEsi = api.MaxEsi - 1

// wrongEsis are numbers that no symbol has.
var wrongEsis = []int{
	-1, -2, -lastEsi, -api.MaxEsi, api.MaxEsi, api.MaxEsi + 1, 1 << 25,
	1 << 32, -1 << 32, 1<<32 + 1, math.MinInt, math.MinInt + 1, math.MaxInt, math.MaxInt - 1,
}

// wrongSizes are how many elements no symbol has.
var wrongSizes = []int{
	0, -1, -2, -api.MaxSize, api.MaxSize + 1, api.MaxSize + 2, 100, 256, 1000, 1001,
	1 << 32, 1<<32 + 1, -1<<32 + 1, math.MinInt, math.MinInt + 1, math.MaxInt,
}

// ruled answers k rows that a short rule tells, so that a symbol of theirs can be worked out elsewhere.
func ruled(k, size int) []rows.Row {
	l := make([]rows.Row, k)
	for i := range l {
		l[i] = make(rows.Row, size)
		for at := range l[i] {
			l[i][at] = byte(37*i + 101*at + 7*i*at + 3)
		}
	}
	return l
}

// mixed answers k rows of elements that follow no rule that shows.
func mixed(k, size, seed int) []rows.Row {
	x := uint32(seed)*2654435761 + 12345
	l := make([]rows.Row, k)
	for i := range l {
		l[i] = make(rows.Row, size)
		for at := range l[i] {
			x = x*1664525 + 1013904223
			l[i][at] = byte(x >> 20)
		}
	}
	return l
}

func same(a, b []rows.Row) bool {
	return slices.EqualFunc(a, b, func(x, y rows.Row) bool { return slices.Equal(x, y) })
}

func cloned(l []rows.Row) []rows.Row {
	var c []rows.Row
	for _, row := range l {
		c = append(c, slices.Clone(row))
	}
	return c
}

// made answers the block of rows of which there is one.
func made(t *testing.T, size int, source ...rows.Row) *Block {
	t.Helper()
	b, err := New(size, source...)
	if b == nil || err != api.OK {
		t.Fatalf("P1001: New(%d, %d rows): %v, error %d", size, len(source), b, err)
	}
	return b
}

// esisOf are numbers of symbols: all source ones, those next to them, the last ones and some in between.
func esisOf(k int) []int {
	esis := []int{k, k + 1, k + 2, 255, 256, 1000, 65535, 65536, 1<<23 + 77, lastEsi - 1, lastEsi}
	for esi := range k {
		esis = append(esis, esi)
	}
	return esis
}

// symbols are those of b of the numbers that can be.
func symbols(t *testing.T, b *Block, esis []int) []rows.Row {
	t.Helper()
	var l []rows.Row
	for _, esi := range esis {
		symbol, err := b.Symbol(esi)
		if len(symbol) != b.Size() || err != api.OK {
			t.Fatalf("P1001: Symbol(%d) of %v: %v, error %d; want %d elements", esi, b.Params, symbol, err, b.Size())
		}
		l = append(l, symbol)
	}
	return l
}

// known are symbols of the ruled rows, worked out beside the program.
var known = []struct {
	k, esi int
	symbol rows.Row
}{
	{1, 0, rows.Row{3}},
	{1, 1, rows.Row{0}},
	{1, 2, rows.Row{74}},
	{1, lastEsi, rows.Row{0}},
	{1, 0, rows.Row{3, 104, 205}},
	{1, 2, rows.Row{74, 147, 143}},
	{1, 123456, rows.Row{74, 147, 143}},
	{1, lastEsi, rows.Row{0, 0, 0}},
	{2, 1, rows.Row{40, 148}},
	{2, 2, rows.Row{40, 148}},
	{2, lastEsi, rows.Row{33, 255}},
	{7, 7, rows.Row{205, 192, 103}},
	{7, 8, rows.Row{229, 119, 220}},
	{7, 123456, rows.Row{241, 12, 232}},
	{7, lastEsi, rows.Row{117, 40, 36}},
	{8, 8, rows.Row{125, 54}},
	{8, lastEsi, rows.Row{233, 70}},
	// Of 12 and 31 the number that the block is made with is 3, of 21 it is 1.
	{12, 12, rows.Row{36, 80, 158, 16}},
	{12, 13, rows.Row{250, 44, 168, 8}},
	{12, 123456, rows.Row{174, 104, 119, 178}},
	{12, lastEsi, rows.Row{159, 24, 118, 244}},
	{21, 21, rows.Row{250}},
	{21, lastEsi, rows.Row{214}},
	{31, 31, rows.Row{225, 34, 54}},
	{31, 123456, rows.Row{249, 123, 115}},
	{31, lastEsi, rows.Row{49, 27, 15}},
	{40, 0, rows.Row{3, 104, 205, 50}},
	{40, 39, rows.Row{166, 28, 146, 8}},
	{40, 40, rows.Row{171, 240, 194, 65}},
	{40, 41, rows.Row{11, 4, 42, 253}},
	{40, 123456, rows.Row{91, 28, 133, 238}},
	{40, lastEsi, rows.Row{50, 216, 134, 252}},
	{40, lastEsi, rows.Row{50}},
}

func TestP1001KnownSymbols(t *testing.T) {
	for _, n := range known {
		size := len(n.symbol)
		b := made(t, size, ruled(n.k, size)...)
		if got, err := b.Symbol(n.esi); !slices.Equal(got, n.symbol) || err != api.OK {
			t.Errorf("P1001: Symbol(%d) of %d rows: %v, error %d; want %v", n.esi, n.k, got, err, n.symbol)
		}
	}
}

// Of one row 0 and 255 the parts are 0 and 255, 220, 98, 35, 157: symbol 2 is made of the second alone, symbol 1 of the three that sum up to 0.
func TestP1001SmallestBlock(t *testing.T) {
	b := made(t, 2, rows.Row{0, 255})
	want := []rows.Row{{0, 255}, {0, 0}, {0, 220}, {0, 0}}
	if got := symbols(t, b, []int{0, 1, 2, lastEsi}); !same(got, want) {
		t.Errorf("P1001: symbols of one row: %v; want %v", got, want)
	}
}

// partsByWords are the parts by the chapter's words, with rows of 0 written out.
func partsByWords(t *testing.T, p params.Params, size int, source []rows.Row) (int, []rows.Row) {
	t.Helper()
	j, err := seed.Find(p.K)
	if err != api.OK {
		t.Fatalf("Find(%d): error %d", p.K, err)
	}
	var esis []int
	for esi := range p.K {
		esis = append(esis, esi)
	}
	var d []rows.Row
	for range p.S + p.H {
		d = append(d, make(rows.Row, size))
	}
	parts, err := solve.Solve(p.L(), size, precode.Matrix(p, j, esis...), append(d, source...))
	if err != api.OK {
		t.Fatalf("Solve of %d rows: error %d", p.K, err)
	}
	return j, parts
}

func TestP1001ByItsDefinition(t *testing.T) {
	for k := 1; k <= api.MaxK; k++ {
		p, err := params.Of(k)
		if err != api.OK {
			t.Fatalf("Of(%d): error %d", k, err)
		}
		for _, size := range []int{1, 2, 15, 16, 33, api.MaxSize - 1, api.MaxSize} {
			source := mixed(k, size, 100*k+size)
			j, parts := partsByWords(t, p, size, source)
			b := made(t, size, source...)
			for _, esi := range esisOf(k) {
				want := drops.Drop(p, j, size, parts, esi)
				if got, err := b.Symbol(esi); len(got) != size || !slices.Equal(got, want) || err != api.OK {
					t.Fatalf("P1001: Symbol(%d) of %d rows of %d: %v, error %d; want %v", esi, k, size, got, err, want)
				}
			}
		}
	}
}

func TestP1001EachSize(t *testing.T) {
	p, _ := params.Of(9)
	for size := 1; size <= api.MaxSize; size++ {
		source := mixed(9, size, size)
		j, parts := partsByWords(t, p, size, source)
		b := made(t, size, source...)
		want := drops.Drops(p, j, size, parts, esisOf(9)...)
		if got := symbols(t, b, esisOf(9)); !same(got, want) {
			t.Fatalf("P1001: symbols of rows of %d: %v; want %v", size, got, want)
		}
	}
}

// The Params' fields and methods are the block's.
func TestP1001ParamsAreEmbedded(t *testing.T) {
	for k := 1; k <= api.MaxK; k++ {
		for _, size := range []int{1, 5, api.MaxSize} {
			b := made(t, size, mixed(k, size, k)...)
			var p params.Params = b.Params
			if want, _ := params.Of(k); p != want {
				t.Errorf("P1001: Params of %d rows: %v; want %v", k, p, want)
			}
			if s := 2 + k/8; b.K != k || b.S != s || b.H != 2 || b.W() != k+s || b.L() != k+s+2 {
				t.Errorf("P1001: of %d rows: K %d, S %d, H %d, W %d, L %d", k, b.K, b.S, b.H, b.W(), b.L())
			}
			if b.Size() != size {
				t.Errorf("P1001: Size of %d rows of %d: %d", k, size, b.Size())
			}
		}
	}
}

// refused tells where New answers anything but the error.
func refused(t *testing.T, name string, want api.Errno, size int, source ...rows.Row) {
	t.Helper()
	if b, err := New(size, source...); b != nil || err != want {
		t.Errorf("P1001: %s: New(%d, %d rows): %v, error %d; want no block, error %d", name, size, len(source), b, err, want)
	}
}

func TestP1001WrongSize(t *testing.T) {
	for _, size := range wrongSizes {
		for _, k := range []int{1, 2, 9, api.MaxK} {
			// Rows of that size if such rows can be, else of others: the size is looked at first.
			refused(t, "rows of that size", api.ErrArg, size, mixed(k, min(max(size, 0), 1001), k)...)
			refused(t, "rows of 1", api.ErrArg, size, mixed(k, 1, k)...)
			refused(t, "rows of 64", api.ErrArg, size, mixed(k, api.MaxSize, k)...)
			refused(t, "nil rows", api.ErrArg, size, make([]rows.Row, k)...)
		}
		refused(t, "no rows", api.ErrArg, size)
		refused(t, "too many rows", api.ErrArg, size, mixed(api.MaxK+1, 1, 0)...)
	}
}

func TestP1001WrongNumberOfRows(t *testing.T) {
	for _, size := range []int{1, 2, api.MaxSize} {
		refused(t, "none", api.ErrArg, size)
		refused(t, "an empty list", api.ErrArg, size, []rows.Row{}...)
		for _, k := range []int{api.MaxK + 1, api.MaxK + 2, 48, 100, 256, 300, 1000} {
			refused(t, "too many", api.ErrArg, size, mixed(k, size, k)...)
			// The number is looked at ahead of the rows.
			refused(t, "too many of another size", api.ErrArg, size, mixed(k, size+1, k)...)
			refused(t, "too many nil ones", api.ErrArg, size, make([]rows.Row, k)...)
		}
	}
	// Rows that lie in the spare room are none.
	refused(t, "all in the spare room", api.ErrArg, 3, mixed(5, 3, 0)[:0]...)
}

func TestP1001WrongRow(t *testing.T) {
	for _, k := range []int{1, 2, 8, 39, api.MaxK} {
		for _, size := range []int{1, 2, 33, api.MaxSize} {
			for _, row := range []rows.Row{
				nil, {}, make(rows.Row, size-1), make(rows.Row, size+1), make(rows.Row, 2*size), make(rows.Row, 1000),
				// Elements that lie in the spare room are none.
				make(rows.Row, size)[:size-1],
			} {
				for _, at := range []int{0, k / 2, k - 1} {
					source := mixed(k, size, k)
					source[at] = row
					refused(t, "one row", api.ErrSize, size, source...)
				}
				refused(t, "all rows", api.ErrSize, size, slices.Repeat([]rows.Row{row}, k)...)
			}
		}
	}
}

func TestP1001WrongEsi(t *testing.T) {
	for _, k := range []int{1, 9, api.MaxK} {
		for _, size := range []int{1, api.MaxSize} {
			b := made(t, size, mixed(k, size, k)...)
			for _, esi := range wrongEsis {
				if got, err := b.Symbol(esi); len(got) != 0 || err != api.ErrArg {
					t.Errorf("P1001: Symbol(%d) of %d rows: %v, error %d; want nothing, ErrArg", esi, k, got, err)
				}
			}
		}
	}
}

func TestP1002SourceRows(t *testing.T) {
	for k := 1; k <= api.MaxK; k++ {
		for _, size := range []int{1, 2, 17, api.MaxSize} {
			for name, source := range map[string][]rows.Row{
				"mixed": mixed(k, size, k+size),
				"ruled": ruled(k, size),
				"zero":  slices.Repeat([]rows.Row{make(rows.Row, size)}, k),
				"255":   slices.Repeat([]rows.Row{slices.Repeat(rows.Row{255}, size)}, k),
			} {
				b := made(t, size, source...)
				for esi, want := range source {
					if got, err := b.Symbol(esi); !slices.Equal(got, want) || err != api.OK {
						t.Fatalf("P1002: %s: Symbol(%d) of %d rows: %v, error %d; want %v", name, esi, k, got, err, want)
					}
				}
			}
		}
	}
}

func TestP1002Nil(t *testing.T) {
	var b *Block
	for _, esi := range append(slices.Clone(wrongEsis), 0, 1, api.MaxK, lastEsi) {
		if got, err := b.Symbol(esi); len(got) != 0 || err != api.ErrArg {
			t.Errorf("P1002: Symbol(%d) of nil: %v, error %d; want nothing, ErrArg", esi, got, err)
		}
	}
	if got := b.Size(); got != 0 {
		t.Errorf("P1002: Size of nil: %d; want 0", got)
	}
}

// A block that New didn't make, or whose Params were turned, has no symbols; no call panics.
func TestP1002NoBlock(t *testing.T) {
	var zero Block
	if zero.Size() != 0 || zero.L() != 0 {
		t.Errorf("P1002: of a zero block: Size %d, L %d", zero.Size(), zero.L())
	}
	turned := *made(t, 2, mixed(9, 2, 0)...)
	for _, p := range []params.Params{{}, {K: 1, S: 2, H: 2}, {K: 9, S: 3, H: 3}, {K: 9, S: 3, H: math.MaxInt}, {K: 10, S: 3, H: 2}, {K: math.MinInt}} {
		turned.Params = p
		for _, b := range []Block{zero, {Params: p}, turned} {
			for _, esi := range []int{0, 1, lastEsi, -1, api.MaxEsi} {
				if got, err := b.Symbol(esi); len(got) != 0 || err != api.ErrArg {
					t.Errorf("P1002: Symbol(%d) of %v that isn't a block's: %v, error %d; want nothing, ErrArg", esi, b.Params, got, err)
				}
			}
		}
	}
}

// handed answers rows that lie within greater ones, in a list that lies within a greater one: the greater rows, the greater list, and what is handed in of it.
func handed(k, size, seed int) (whole, list, source []rows.Row) {
	whole = mixed(k+5, size+5, seed)
	for _, row := range whole {
		list = append(list, row[2:2+size])
	}
	return whole, list, list[2 : 2+k]
}

// asked is how many rows, of what size, New is handed.
type asked struct{ k, size int }

// asks are of many kinds, those that are refused too.
var asks = []asked{{1, 1}, {1, api.MaxSize}, {0, 1}, {2, 3}, {7, 0}, {8, 16}, {21, 9}, {41, 5}, {api.MaxK, 1}, {12, 65}, {api.MaxK, api.MaxSize}}

func TestP1002HandedInStays(t *testing.T) {
	for _, a := range asks {
		whole, list, source := handed(a.k, a.size, a.k)
		b, err := New(a.size, source...)
		if err == api.OK {
			symbols(t, b, esisOf(a.k))
		}
		wholeWas, listWas, _ := handed(a.k, a.size, a.k)
		if !same(whole, wholeWas) || !same(list, listWas) {
			t.Errorf("P1002: of %v, what was handed in turned", a)
		}
	}
}

func TestP1002NotKept(t *testing.T) {
	for _, a := range asks {
		whole, list, source := handed(a.k, a.size, a.k)
		first, err := New(a.size, source...)
		if err != api.OK {
			continue
		}
		want := cloned(symbols(t, first, esisOf(a.k)))
		_, _, source = handed(a.k, a.size, a.k)
		b := made(t, a.size, source...)
		for _, l := range [][]rows.Row{whole, list, source} {
			for i, row := range l {
				for at := range row {
					row[at] ^= 91
				}
				l[i] = rows.Row{1, 2, 3}
			}
		}
		// One that was asked ahead of the turn, and one that is asked behind it alone.
		if !same(symbols(t, first, esisOf(a.k)), want) || !same(symbols(t, b, esisOf(a.k)), want) {
			t.Errorf("P1002: of %v, symbols turned with what had been handed in", a)
		}
		if b.K != a.k || b.Size() != a.size {
			t.Errorf("P1002: of %v, K %d and Size %d turned with what had been handed in", a, b.K, b.Size())
		}
	}
}

// Rows may be one and the same, and lie over one another.
func TestP1002RowsThatShareMemory(t *testing.T) {
	long := mixed(1, 40, 3)[0]
	var source []rows.Row
	for i := range 12 {
		source = append(source, long[i:i+20], long[0:20])
	}
	want := made(t, 20, cloned(source)...)
	got := made(t, 20, source...)
	if !same(symbols(t, got, esisOf(24)), symbols(t, want, esisOf(24))) {
		t.Error("P1002: symbols of rows that share memory are others than of rows that don't")
	}
}

// spoil turns all that the row has, spare room too.
func spoil(row rows.Row) {
	row = row[:cap(row)]
	for at := range row {
		row[at] ^= 255
	}
}

func TestP1002NewMemory(t *testing.T) {
	for _, k := range []int{1, 2, 8, 23, api.MaxK} {
		source := mixed(k, 9, k)
		b, other := made(t, 9, source...), made(t, 9, source...)
		esis := append(esisOf(k), esisOf(k)...)
		want := cloned(symbols(t, b, esis))
		for i, esi := range esis {
			l := symbols(t, b, esis)
			spoil(l[i])
			l[i] = want[i]
			if !same(l, want) {
				t.Errorf("P1002: Symbol(%d) of %d rows shares memory with another answer", esi, k)
			}
			if !same(symbols(t, b, esis), want) {
				t.Errorf("P1002: with Symbol(%d) of %d rows turned, the block turned", esi, k)
			}
			if !same(symbols(t, other, esis), want) {
				t.Errorf("P1002: with Symbol(%d) of %d rows turned, another block turned", esi, k)
			}
			if !same(source, mixed(k, 9, k)) {
				t.Fatalf("P1002: with Symbol(%d) of %d rows turned, what was handed in turned", esi, k)
			}
		}
	}
}

func TestP1002AskedTwiceInARow(t *testing.T) {
	for _, k := range []int{1, 8, api.MaxK} {
		b := made(t, 9, mixed(k, 9, k)...)
		for _, esi := range esisOf(k) {
			first, _ := b.Symbol(esi)
			want := slices.Clone(first)
			again, _ := b.Symbol(esi)
			spoil(first)
			third, _ := b.Symbol(esi)
			if !slices.Equal(again, want) || !slices.Equal(third, want) {
				t.Errorf("P1002: with Symbol(%d) of %d rows turned: %v, %v; want %v", esi, k, again, third, want)
			}
		}
	}
}

// Two blocks of as many rows answer each its own, whichever is asked ahead, and whichever was made ahead.
func TestP1002NothingInCommon(t *testing.T) {
	for _, k := range []int{1, 8, 31, api.MaxK} {
		esis := esisOf(k)
		wantA := symbols(t, made(t, 4, mixed(k, 4, 1)...), esis)
		wantB := symbols(t, made(t, 6, mixed(k, 6, 2)...), esis)
		b, a := made(t, 6, mixed(k, 6, 2)...), made(t, 4, mixed(k, 4, 1)...)
		for i, esi := range esis {
			fromB, _ := b.Symbol(esi)
			b.Symbol(-1)
			fromA, _ := a.Symbol(esi)
			if !slices.Equal(fromA, wantA[i]) || !slices.Equal(fromB, wantB[i]) {
				t.Errorf("P1002: Symbol(%d) of two blocks of %d rows: %v, %v; want %v, %v", esi, k, fromA, fromB, wantA[i], wantB[i])
			}
		}
		b.Params = params.Params{}
		if got := symbols(t, a, esis); !same(got, wantA) || a.K != k {
			t.Errorf("P1002: with the Params of one block of %d rows turned, another turned", k)
		}
	}
}

// answer is what New and Symbol do of a number of rows, a size and a number of a symbol.
type answer struct {
	symbol           rows.Row
	k, size          int
	newErr, drawnErr api.Errno
}

func (a answer) is(b answer) bool {
	return slices.Equal(a.symbol, b.symbol) && a.k == b.k && a.size == b.size && a.newErr == b.newErr && a.drawnErr == b.drawnErr
}

func ask(a asked, esi int) answer {
	b, err := New(a.size, mixed(a.k, max(a.size, 0), a.k)...)
	if b == nil {
		return answer{newErr: err}
	}
	symbol, drawn := b.Symbol(esi)
	return answer{symbol, b.K, b.Size(), err, drawn}
}

// someEsis are first and last ones, others, and ones that can't be.
var someEsis = []int{0, lastEsi, -1, 40, api.MaxEsi, 7}

func askAll() []answer {
	var l []answer
	for _, a := range asks {
		for _, esi := range someEsis {
			l = append(l, ask(a, esi))
		}
	}
	return l
}

func TestP1002AnswersHangOnArgumentsAlone(t *testing.T) {
	first := askAll()
	if again := askAll(); !slices.EqualFunc(first, again, answer.is) {
		t.Errorf("P1002: asked again: %v; at first %v", again, first)
	}
	for at := range slices.Backward(first) {
		got := ask(asks[at/len(someEsis)], someEsis[at%len(someEsis)])
		if !got.is(first[at]) {
			t.Errorf("P1002: asked in another order: %v; at first %v", got, first[at])
		}
	}
}

func TestP1002SymbolsInAnyOrder(t *testing.T) {
	for _, k := range []int{1, 9, api.MaxK} {
		b := made(t, 5, mixed(k, 5, k)...)
		esis := append(esisOf(k), wrongEsis...)
		want := make([]rows.Row, len(esis))
		for i, esi := range esis {
			want[i], _ = b.Symbol(esi)
		}
		for i, esi := range slices.Backward(esis) {
			got, _ := b.Symbol(esi)
			again, _ := b.Symbol(esi)
			if !slices.Equal(got, want[i]) || !slices.Equal(again, want[i]) {
				t.Errorf("P1002: Symbol(%d) of %d rows, asked again: %v, %v; at first %v", esi, k, got, again, want[i])
			}
		}
	}
}

func TestP1002AskedAtOnce(t *testing.T) {
	b := made(t, 8, mixed(api.MaxK, 8, 0)...)
	esis := esisOf(api.MaxK)
	want := symbols(t, b, esis)
	got := make([][]rows.Row, 4)
	var all sync.WaitGroup
	for i := range got {
		all.Go(func() {
			for _, esi := range esis {
				symbol, _ := b.Symbol(esi)
				got[i] = append(got[i], symbol)
			}
		})
	}
	all.Wait()
	for i, l := range got {
		if !same(l, want) {
			t.Errorf("P1002: asked by %d others at once: %v; want %v", i, l, want)
		}
	}
}
