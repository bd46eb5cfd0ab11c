package drops

import (
	"math"
	"slices"
	"testing"

	"fountain/api"
	"fountain/params"
	"fountain/rows"
	"fountain/tuple"
)

const lastEsi = api.MaxEsi - 1

// block has the numbers of a block of k source symbols.
func block(t *testing.T, k int) params.Params {
	t.Helper()
	p, err := params.Of(k)
	if err != api.OK {
		t.Fatalf("Of(%d): error %d", k, err)
	}
	return p
}

// bits answers n parts, each with one bit that no other has: their sums tell which ones they are of.
func bits(n int) []rows.Row {
	l := make([]rows.Row, n)
	for i := range l {
		l[i] = make(rows.Row, (n+7)/8)
		l[i][i/8] = 1 << (i % 8)
	}
	return l
}

// ragged answers n parts of many lengths: none at all, empty ones, shorter than size, as long and longer.
func ragged(n, size, seed int) []rows.Row {
	x := uint32(seed)*2654435761 + 12345
	next := func(m int) int {
		x = x*1664525 + 1013904223
		return int(x>>12) % m
	}
	l := make([]rows.Row, n)
	for i := range l {
		switch next(6) {
		case 0:
		case 1:
			l[i] = rows.Row{}
		default:
			l[i] = make(rows.Row, max(size-3+next(7), 0))
		}
		for at := range l[i] {
			l[i][at] = byte(next(256))
		}
	}
	return l
}

func same(a, b []rows.Row) bool {
	return slices.EqualFunc(a, b, func(x, y rows.Row) bool { return slices.Equal(x, y) })
}

func cloned(l []rows.Row) []rows.Row {
	var c []rows.Row
	for _, row := range l {
		c = append(c, slices.Clone(row))
	}
	return c
}

// known are symbols of bits, worked out beside the program.
var known = []struct {
	k, j, esi int
	drop      rows.Row
}{
	// The first and the last of all numbers.
	{1, 0, 0, rows.Row{20}},
	{1, 0, lastEsi, rows.Row{21}},
	{1, 255, 0, rows.Row{23}},
	{1, 255, lastEsi, rows.Row{19}},
	{40, 0, 0, rows.Row{0, 0, 1, 0, 0, 0, 1}},
	{40, 0, lastEsi, rows.Row{64, 0, 64, 0, 0, 0, 1}},
	{40, 255, 0, rows.Row{16, 0, 4, 0, 32, 0, 1}},
	{40, 255, lastEsi, rows.Row{0, 1, 0, 0, 0, 1, 1}},
	// Of the first high part.
	{1, 0, 1, rows.Row{11}},
	{40, 0, 1, rows.Row{0, 0, 66, 0, 0, 128, 0}},
	// Of all parts but one, and of 9.
	{2, 0, 8, rows.Row{31}},
	{7, 0, 29, rows.Row{191, 5}},
	{40, 1, 0, rows.Row{3, 0, 0, 0, 0, 126, 1}},
	// Numbers in between.
	{2, 0, 12, rows.Row{43}},
	{22, 0, 2, rows.Row{3, 48, 0, 10}},
	{24, 77, 123456, rows.Row{0, 160, 0, 32}},
}

func TestP801KnownDrops(t *testing.T) {
	for _, n := range known {
		p := block(t, n.k)
		c := bits(p.L())
		if got := Drop(p, n.j, len(n.drop), c, n.esi); !slices.Equal(got, n.drop) {
			t.Errorf("P801: Drop of k %d, %d, %d: %v; want %v", n.k, n.j, n.esi, got, n.drop)
		}
		if got := Drops(p, n.j, len(n.drop), c, n.esi); !same(got, []rows.Row{n.drop}) {
			t.Errorf("P801: Drops of k %d, %d, %d alone: %v; want %v", n.k, n.j, n.esi, got, n.drop)
		}
	}
}

func TestP801KnownDropsInTheirOrder(t *testing.T) {
	p := block(t, 1)
	for _, n := range []struct {
		esis  []int
		drops []rows.Row
	}{
		{nil, nil},
		{[]int{}, nil},
		{[]int{1}, []rows.Row{{11}}},
		{[]int{0, 1, 3}, []rows.Row{{20}, {11}, {23}}},
		{[]int{3, 1, 0}, []rows.Row{{23}, {11}, {20}}},
		{[]int{1, 1}, []rows.Row{{11}, {11}}},
		{[]int{lastEsi, 0, 1, 0, lastEsi}, []rows.Row{{21}, {20}, {11}, {20}, {21}}},
	} {
		if got := Drops(p, 0, 1, bits(p.L()), n.esis...); !same(got, n.drops) {
			t.Errorf("P801: Drops of %v: %v; want %v", n.esis, got, n.drops)
		}
	}
}

// Of the parts 2 and 4 each place is summed as far as they go, and is 0 behind that.
func TestP801RowsOfOtherLengths(t *testing.T) {
	p := block(t, 1)
	long := rows.Row(slices.Repeat([]byte{9}, 2000))
	for _, n := range []struct {
		name string
		c    []rows.Row
		size int
		drop rows.Row
	}{
		{"both longer", []rows.Row{long, long, {1, 2, 3}, long, {4, 5}}, 1, rows.Row{5}},
		{"one as long", []rows.Row{long, long, {1, 2, 3}, long, {4, 5}}, 2, rows.Row{5, 7}},
		{"one shorter", []rows.Row{long, long, {1, 2, 3}, long, {4, 5}}, 3, rows.Row{5, 7, 3}},
		{"both shorter", []rows.Row{long, long, {1, 2, 3}, long, {4, 5}}, 5, rows.Row{5, 7, 3, 0, 0}},
		{"one empty", []rows.Row{long, long, {}, long, {4, 5}}, 3, rows.Row{4, 5, 0}},
		{"one nil", []rows.Row{long, long, {1, 2, 3}, long, nil}, 2, rows.Row{1, 2}},
		{"both empty", []rows.Row{long, long, nil, long, {}}, 4, rows.Row{0, 0, 0, 0}},
		{"the others empty", []rows.Row{nil, nil, {1}, nil, {1, 1}}, 2, rows.Row{0, 1}},
		{"all empty", make([]rows.Row, 5), 64, make(rows.Row, 64)},
		{"all very long", []rows.Row{long, long, long, long, {8}}, 64, append(rows.Row{1}, long[:63]...)},
	} {
		if got := Drop(p, 0, n.size, n.c, 0); !slices.Equal(got, n.drop) {
			t.Errorf("P801: %s: Drop: %v; want %v", n.name, got, n.drop)
		}
		if got := Drops(p, 0, n.size, n.c, 0, 0); !same(got, []rows.Row{n.drop, n.drop}) {
			t.Errorf("P801: %s: Drops: %v; want %v twice", n.name, got, n.drop)
		}
	}
}

// dropOf is the symbol by the chapter's words.
func dropOf(p params.Params, j, size int, c []rows.Row, esi int) rows.Row {
	var l []rows.Row
	for _, place := range tuple.Parts(p, j, esi) {
		l = append(l, c[place])
	}
	return rows.Sum(size, l...)
}

// lists are numbers of symbols that can be: none, one, many, one of them twice, the first and the last ones, rising or not.
func lists(k int) [][]int {
	many := make([]int, 300)
	for i := range many {
		many[i] = (i * 55927) % api.MaxEsi
	}
	source := make([]int, k)
	for i := range source {
		source[i] = i
	}
	return [][]int{
		nil, {}, {0}, {lastEsi}, {k - 1}, {k}, {0, lastEsi}, {lastEsi, 0},
		{5, 5}, {5, 7, 5}, {3, 2, 1, 0}, {1 << 23, 40, 1<<23 + 1, 41, 40}, source, many,
	}
}

func TestP801ByItsDefinition(t *testing.T) {
	for k := 1; k <= api.MaxK; k++ {
		p := block(t, k)
		for i, size := range []int{1, 2, 7, 33, api.MaxSize - 1, api.MaxSize} {
			c := ragged(p.L(), size, 100*k+i)
			for _, j := range []int{0, 1, 77, 128, 255} {
				for _, esis := range lists(k) {
					var want []rows.Row
					for _, esi := range esis {
						drop := dropOf(p, j, size, c, esi)
						if got := Drop(p, j, size, c, esi); len(got) != size || !slices.Equal(got, drop) {
							t.Fatalf("P801: Drop(%v, %d, %d, .., %d): %v; want %v", p, j, size, esi, got, drop)
						}
						want = append(want, drop)
					}
					if got := Drops(p, j, size, c, esis...); !same(got, want) {
						t.Fatalf("P801: Drops(%v, %d, %d, .., %v): %v; want %v", p, j, size, esis, got, want)
					}
				}
			}
		}
	}
}

func TestP801EachSizeAndJ(t *testing.T) {
	p := block(t, 17)
	for size := 1; size <= api.MaxSize; size++ {
		c := ragged(p.L(), size, size)
		for j := range 256 {
			if got, want := Drop(p, j, size, c, 3), dropOf(p, j, size, c, 3); len(got) != size || !slices.Equal(got, want) {
				t.Fatalf("P801: Drop(%v, %d, %d, .., 3): %v; want %v", p, j, size, got, want)
			}
		}
	}
}

// none tells where there are symbols that can't be; of several, one is as good as all.
func none(t *testing.T, p params.Params, j, size int, c []rows.Row, esi int) {
	t.Helper()
	if got := Drop(p, j, size, c, esi); len(got) != 0 {
		t.Errorf("P801: Drop(%v, %d, %d, %d rows, %d): %v; want nothing", p, j, size, len(c), esi, got)
	}
	for _, esis := range [][]int{{esi}, {esi, esi}, {esi, 0, 1}, {0, esi, 1}, {0, 1, esi}, {esi, 0, esi}} {
		if got := Drops(p, j, size, c, esis...); len(got) != 0 {
			t.Errorf("P801: Drops(%v, %d, %d, %d rows, %v): %v; want nothing", p, j, size, len(c), esis, got)
		}
	}
	if got := Drops(p, j, size, c); len(got) != 0 {
		t.Errorf("P801: Drops(%v, %d, %d, %d rows): %v; want nothing", p, j, size, len(c), got)
	}
}

// noneOf tells where there are symbols of no block, also of as many rows as its numbers ask for.
func noneOf(t *testing.T, p params.Params) {
	t.Helper()
	counts := []int{0, 5, 49}
	if p.L() > 0 && p.L() < 2000 {
		counts = append(counts, p.L())
	}
	for _, n := range counts {
		for _, size := range []int{1, api.MaxSize} {
			none(t, p, 0, size, bits(n), 0)
			none(t, p, 255, size, bits(n), lastEsi)
		}
	}
}

func TestP801NoBlock(t *testing.T) {
	for _, p := range []params.Params{
		{}, {K: 1}, {S: 2}, {H: 2}, {K: 1, S: 2}, {K: 1, H: 2}, {S: 2, H: 2}, {K: 5}, {H: 5},
		{K: -1, S: 2, H: 2}, {K: -8, S: 1, H: 2}, {K: -1, S: -2, H: -2}, {K: -1, S: 4, H: 2}, {K: 3, S: 4, H: -2},
		{K: 41, S: 7, H: 2}, {K: 48, S: 8, H: 2}, {K: 1000, S: 127, H: 2}, {K: 1<<32 + 1, S: 2, H: 2}, {K: 1, S: 1<<32 + 2, H: 2},
		{K: 1 << 62, S: 1 << 62, H: 1 << 62}, {K: math.MaxInt, S: 2 + math.MaxInt/8, H: 2}, {K: math.MinInt, S: 2 + math.MinInt/8, H: 2},
		{K: math.MaxInt, S: math.MaxInt, H: math.MaxInt}, {K: math.MinInt, S: math.MinInt, H: math.MinInt},
		// Sums that come round to the L of a block.
		{K: math.MaxInt, S: math.MinInt, H: 6}, {K: math.MaxInt, S: math.MaxInt, H: 7},
	} {
		noneOf(t, p)
	}
}

func TestP801OneNumberOff(t *testing.T) {
	for k := 1; k <= api.MaxK; k++ {
		p := block(t, k)
		for _, off := range []params.Params{
			{K: k, S: p.S - 1, H: p.H}, {K: k, S: p.S + 1, H: p.H}, {K: k, H: p.H},
			{K: k, S: p.S, H: p.H - 1}, {K: k, S: p.S, H: p.H + 1}, {K: k, S: p.S},
			{K: k - 8, S: p.S, H: p.H}, {K: k + 8, S: p.S, H: p.H}, {K: -k, S: p.S, H: p.H}, {S: p.S, H: p.H},
			// As many parts, and yet no block's.
			{K: k, S: p.S - 1, H: p.H + 1}, {K: k, S: p.S + 1, H: p.H - 1}, {K: k - 1, S: p.S + 1, H: p.H}, {K: k + 1, S: p.S - 1, H: p.H},
		} {
			noneOf(t, off)
		}
	}
}

func TestP801NotLRows(t *testing.T) {
	for _, k := range []int{1, 7, 8, 39, api.MaxK} {
		p := block(t, k)
		for _, n := range []int{0, 1, p.H, p.K, p.W(), p.L() - 1, p.L() + 1, 2 * p.L(), 1000} {
			none(t, p, 0, 2, bits(n), 0)
			none(t, p, 255, 2, make([]rows.Row, n), lastEsi)
		}
		none(t, p, 0, 2, nil, 0)
		// Rows that lie in the spare room are none.
		none(t, p, 0, 2, bits(p.L())[:p.L()-1], 0)
	}
}

func TestP801NoSize(t *testing.T) {
	for _, k := range []int{1, 9, api.MaxK} {
		p := block(t, k)
		c := ragged(p.L(), api.MaxSize, k)
		for _, size := range []int{0, -1, -2, -api.MaxSize, api.MaxSize + 1, 100, 1000, 1001, 1<<32 + 1, -1<<32 + 1, math.MinInt, math.MaxInt} {
			none(t, p, 0, size, c, 0)
			none(t, p, 255, size, c, lastEsi)
			none(t, p, 0, size, make([]rows.Row, p.L()), 0)
		}
	}
}

func TestP801NoJ(t *testing.T) {
	for _, k := range []int{1, 9, api.MaxK} {
		p := block(t, k)
		for _, j := range []int{-1, -2, -255, -256, 256, 257, 512, 1 << 16, 1 << 32, -1 << 32, 1<<32 + 1, math.MinInt, math.MaxInt} {
			none(t, p, j, 7, bits(p.L()), 0)
			none(t, p, j, 7, bits(p.L()), lastEsi)
			none(t, p, j, 7, bits(p.L()), -1)
		}
	}
}

func TestP801NoEsi(t *testing.T) {
	for _, k := range []int{1, 9, api.MaxK} {
		p := block(t, k)
		for _, esi := range []int{-1, -2, -lastEsi, -api.MaxEsi, api.MaxEsi, api.MaxEsi + 1, 1 << 25, 1 << 32, -1 << 32, 1<<32 + 1, math.MinInt, math.MaxInt} {
			none(t, p, 0, 7, bits(p.L()), esi)
			none(t, p, 255, 7, bits(p.L()), esi)
			none(t, p, 256, 7, bits(p.L()), esi)
		}
	}
}

// handed is what is handed in: rows that lie within greater ones, in a list that lies within a greater one, and so do the esis; there is room ahead of all of it and behind.
type handed struct {
	whole []rows.Row
	list  []rows.Row
	esis  []int
}

const (
	ahead  = 2
	behind = 3
)

func hand(p params.Params, size, seed int, esis ...int) handed {
	whole := ragged(p.L()+ahead+behind, size+ahead+behind, seed)
	list := make([]rows.Row, len(whole))
	for i, row := range whole {
		if len(row) >= ahead+behind {
			row = row[ahead : len(row)-behind]
		}
		list[i] = row
	}
	return handed{whole, list, slices.Concat([]int{-9, -8}, esis, []int{-7, 6, 5})}
}

func (h handed) parts() []rows.Row { return h.list[ahead : len(h.list)-behind] }

func (h handed) numbers() []int { return h.esis[ahead : len(h.esis)-behind] }

func (h handed) same(g handed) bool {
	return same(h.whole, g.whole) && same(h.list, g.list) && slices.Equal(h.esis, g.esis)
}

// asked is one call's arguments, but for what hand makes of them.
type asked struct {
	p                params.Params
	j, size, seed, n int
	esis             []int
}

// asks are arguments of many kinds, those that have no answer too.
func asks(t *testing.T) []asked {
	var l []asked
	for i, k := range []int{1, 2, 7, 8, 23, 39, api.MaxK} {
		p := block(t, k)
		for at, esis := range [][]int{nil, {0}, {lastEsi}, {5, 5}, {7, 3, 3, 0, lastEsi, 12}, {-1}, {0, -1, 4}, {api.MaxEsi, 2}} {
			size := []int{1, 2, 3, 20, api.MaxSize}[(i+at)%5]
			l = append(l, asked{p, 30*i + at, size, i + at, p.L(), esis})
			l = append(l, asked{p, 256 + at, size, i, p.L(), esis}, asked{p, at, api.MaxSize + 1, i, p.L(), esis})
			l = append(l, asked{p, at, size, i, p.L() - 1, esis}, asked{params.Params{K: k}, at, size, i, p.L(), esis})
		}
	}
	return l
}

func (a asked) hand() handed {
	// What hand makes has as many rows as its numbers say.
	return hand(params.Params{K: a.n}, a.size, a.seed, a.esis...)
}

// ask answers what both calls do: Drops' symbols, and Drop's of each esi.
func (a asked) ask(h handed) [][]rows.Row {
	var each []rows.Row
	for _, esi := range h.numbers() {
		each = append(each, Drop(a.p, a.j, a.size, h.parts(), esi))
	}
	return [][]rows.Row{each, Drops(a.p, a.j, a.size, h.parts(), h.numbers()...)}
}

func sameAnswers(a, b [][]rows.Row) bool { return slices.EqualFunc(a, b, same) }

func TestP802AsksHaveAnswers(t *testing.T) {
	with := 0
	for _, a := range asks(t) {
		if len(a.ask(a.hand())[1]) > 0 {
			with++
		}
	}
	if with < 25 {
		t.Errorf("too few were asked that have answers: %d", with)
	}
}

func TestP802HandedInStays(t *testing.T) {
	for _, a := range asks(t) {
		h := a.hand()
		a.ask(h)
		if !h.same(a.hand()) {
			t.Errorf("P802: with %v, what was handed in turned", a)
		}
	}
}

func TestP802NotKept(t *testing.T) {
	for _, a := range asks(t) {
		h := a.hand()
		got := a.ask(h)
		var kept [][]rows.Row
		for _, l := range got {
			kept = append(kept, cloned(l))
		}
		for _, row := range h.whole {
			for at := range row {
				row[at] ^= 255
			}
		}
		clear(h.list)
		clear(h.esis)
		if !sameAnswers(got, kept) {
			t.Errorf("P802: the answers of %v turned with what had been handed in", a)
		}
		if again := a.ask(a.hand()); !sameAnswers(again, kept) {
			t.Errorf("P802: with what was handed in turned, of %v again: %v; at first %v", a, again, kept)
		}
	}
}

// The rows of one call may be turned ahead of the next: what is answered is of those that it is handed.
func TestP802RowsAreLookedAtAgain(t *testing.T) {
	p := block(t, 1)
	c := bits(p.L())
	if got := Drop(p, 0, 1, c, 0); !slices.Equal(got, rows.Row{20}) {
		t.Fatalf("P802: Drop: %v; want 20", got)
	}
	c[2][0], c[4] = 64, rows.Row{1, 5}
	if got := Drop(p, 0, 1, c, 0); !slices.Equal(got, rows.Row{65}) {
		t.Errorf("P802: with rows turned, Drop: %v; want 65", got)
	}
	if got := Drops(p, 0, 1, c, 0); !same(got, []rows.Row{{65}}) {
		t.Errorf("P802: with rows turned, Drops: %v; want 65", got)
	}
}

func TestP802AnswersHangOnArgumentsAlone(t *testing.T) {
	l := asks(t)
	first := make([][][]rows.Row, len(l))
	for i, a := range l {
		first[i] = a.ask(a.hand())
	}
	for i, a := range l {
		if got := a.ask(a.hand()); !sameAnswers(got, first[i]) {
			t.Errorf("P802: asked again, of %v: %v; at first %v", a, got, first[i])
		}
	}
	for i, a := range slices.Backward(l) {
		if got := a.ask(a.hand()); !sameAnswers(got, first[i]) {
			t.Errorf("P802: asked in another order, of %v: %v; at first %v", a, got, first[i])
		}
	}
}

// spoil turns all that the rows have, spare room too.
func spoil(l []rows.Row) {
	for _, row := range l {
		row = row[:cap(row)]
		for at := range row {
			row[at] ^= 255
		}
	}
	l = l[:cap(l)]
	for i := range l {
		l[i] = rows.Row{77}
	}
}

func TestP802NewMemory(t *testing.T) {
	for _, a := range asks(t) {
		h := a.hand()
		got := a.ask(h)
		var kept [][]rows.Row
		for _, l := range got {
			kept = append(kept, cloned(l))
		}
		for i, l := range a.ask(h) {
			spoil(l)
			if !sameAnswers(got, kept) {
				t.Errorf("P802: answer %d of %v shares memory with others", i, a)
			}
			if !h.same(a.hand()) {
				t.Errorf("P802: answer %d of %v shares memory with what was handed in", i, a)
			}
			if again := a.ask(h); !sameAnswers(again, kept) {
				t.Errorf("P802: with answer %d of %v turned: %v; at first %v", i, a, again, kept)
			}
		}
	}
}

// Each symbol of an answer is its own: turned, spare room too, none of the others turns, not even one of the same number.
func TestP802EachSymbolIsItsOwn(t *testing.T) {
	for _, k := range []int{1, 8, api.MaxK} {
		p := block(t, k)
		c := ragged(p.L(), 9, k)
		call := func() []rows.Row { return Drops(p, 1, 9, c, 4, 4, 9, 4, 0) }
		want := call()
		if len(want) != 5 {
			t.Fatalf("P802: of %v: %d symbols; want 5", p, len(want))
		}
		for i := range want {
			l := call()
			spoil(l[i : i+1 : i+1])
			l[i] = want[i]
			if !same(l, want) {
				t.Errorf("P802: of %v, with symbol %d turned: others turned too", p, i)
			}
		}
	}
}
