package decode

import (
	"math"
	"slices"
	"sync"
	"testing"

	"fountain/api"
	"fountain/block"
	"fountain/drops"
	"fountain/params"
	"fountain/precode"
	"fountain/rows"
	"fountain/seed"
	"fountain/solve"
)

const lastEsi = api.MaxEsi - 1

// wrongKs are how many source rows no block has.
var wrongKs = []int{
	0, -1, -2, -api.MaxK, api.MaxK + 1, api.MaxK + 2, 48, 100, 256,
	1 << 32, 1<<32 + 1, -1<<32 + 1, math.MinInt, math.MinInt + 1, math.MaxInt, math.MaxInt - 1,
}

// wrongSizes are how many elements no symbol has.
var wrongSizes = []int{
	0, -1, -2, -api.MaxSize, api.MaxSize + 1, api.MaxSize + 2, 100, 256, 1000, 1001,
	1 << 32, 1<<32 + 1, -1<<32 + 1, math.MinInt, math.MinInt + 1, math.MaxInt,
}

// wrongEsis are numbers that no symbol has.
var wrongEsis = []int{
	-1, -2, -lastEsi, -api.MaxEsi, api.MaxEsi, api.MaxEsi + 1, 1 << 25,
	1 << 32, -1 << 32, 1<<32 + 1, math.MinInt, math.MinInt + 1, math.MaxInt, math.MaxInt - 1,
}

// chance makes numbers that follow no rule that shows.
type chance uint32

func (c *chance) next(below int) int {
	*c = *c*1664525 + 1013904223
	return int(*c>>7) % below
}

func (c *chance) rows(n, size int) []rows.Row {
	l := make([]rows.Row, n)
	for i := range l {
		l[i] = make(rows.Row, size)
		for at := range l[i] {
			l[i][at] = byte(c.next(256))
		}
	}
	return l
}

// esi is one of the first numbers, or any.
func (c *chance) esi(k int) int {
	if c.next(2) == 0 {
		return c.next(2 * k)
	}
	return c.next(api.MaxEsi)
}

// turned has the symbols in another order.
func (c *chance) turned(l []Drop) []Drop {
	l = slices.Clone(l)
	for i := range l {
		at := i + c.next(len(l)-i)
		l[i], l[at] = l[at], l[i]
	}
	return l
}

// ruled answers n rows that a short rule tells, so that what they make can be worked out elsewhere.
func ruled(n, size int) []rows.Row {
	l := make([]rows.Row, n)
	for i := range l {
		l[i] = make(rows.Row, size)
		for at := range l[i] {
			l[i][at] = byte(37*i + 101*at + 7*i*at + 3)
		}
	}
	return l
}

// run has n numbers from one on.
func run(from, n int) []int {
	var l []int
	for i := range n {
		l = append(l, from+i)
	}
	return l
}

// down has n numbers from the last one downwards.
func down(n int) []int {
	l := run(lastEsi-n+1, n)
	slices.Reverse(l)
	return l
}

// with has the numbers with the rows of the same places.
func with(esis []int, data []rows.Row) []Drop {
	var l []Drop
	for i, esi := range esis {
		l = append(l, Drop{esi, data[i]})
	}
	return l
}

func same(a, b []rows.Row) bool {
	return slices.EqualFunc(a, b, func(x, y rows.Row) bool { return slices.Equal(x, y) })
}

func sameDrops(a, b []Drop) bool {
	return slices.EqualFunc(a, b, func(x, y Drop) bool { return x.Esi == y.Esi && slices.Equal(x.Data, y.Data) })
}

func cloned(l []Drop) []Drop {
	var c []Drop
	for _, d := range l {
		c = append(c, Drop{d.Esi, slices.Clone(d.Data)})
	}
	return c
}

func esisOf(l []Drop) []int {
	var esis []int
	for _, d := range l {
		esis = append(esis, d.Esi)
	}
	return esis
}

// made answers the block of the rows, of which package block makes the symbols.
func made(t *testing.T, source []rows.Row) *block.Block {
	t.Helper()
	b, err := block.New(len(source[0]), source...)
	if b == nil || err != api.OK {
		t.Fatalf("New of %d rows: error %d", len(source), err)
	}
	return b
}

// symbols are those of a block of these numbers.
func symbols(t *testing.T, b *block.Block, esis ...int) []Drop {
	t.Helper()
	var l []Drop
	for _, esi := range esis {
		data, err := b.Symbol(esi)
		if err != api.OK {
			t.Fatalf("Symbol(%d): error %d", esi, err)
		}
		l = append(l, Drop{esi, data})
	}
	return l
}

// wants tells where Block answers anything but the source rows.
func wants(t *testing.T, name string, source []rows.Row, k, size int, l ...Drop) {
	t.Helper()
	if got, err := Block(k, size, l...); len(got) != k || !same(got, source) || err != api.OK {
		t.Errorf("%s: Block(%d, %d) of %v: %v, error %d; want %v", name, k, size, esisOf(l), got, err, source)
	}
}

// refused tells where Block answers anything but the error.
func refused(t *testing.T, name string, want api.Errno, k, size int, l ...Drop) {
	t.Helper()
	if got, err := Block(k, size, l...); len(got) != 0 || err != want {
		t.Errorf("%s: Block(%d, %d) of %v: %v, error %d; want nothing, error %d", name, k, size, esisOf(l), got, err, want)
	}
}

// known are blocks made of just enough symbols with ruled Data, worked out beside the program.
var known = []struct {
	esis   []int
	source []rows.Row
}{
	{[]int{0}, []rows.Row{{3, 104, 205}}},
	{[]int{2}, []rows.Row{{135, 226, 1}}},
	{[]int{lastEsi - 1, lastEsi}, []rows.Row{{40, 177}, {77, 194}}},
	{[]int{lastEsi - 2, lastEsi - 1, lastEsi}, []rows.Row{{3, 104, 205}, {114, 151, 82}, {23, 195, 97}}},
	{[]int{4, 5, 6, 7}, []rows.Row{{238, 175}, {198, 59}, {249, 23}, {21, 23}}},
	{[]int{lastEsi - 3, lastEsi - 2, lastEsi - 1, lastEsi}, []rows.Row{{26, 129}, {77, 96}, {13, 57}, {114, 76}}},
	{[]int{7, 8, 9, 10, 11, 12, 13}, []rows.Row{{45}, {98}, {33}, {87}, {175}, {121}, {0}}},
	{[]int{8, 9, 10, 11, 12, 13, 14, 15}, []rows.Row{{178, 204}, {127, 136}, {74, 140}, {1, 244}, {249, 20}, {141, 64}, {55, 28}, {219, 140}}},
	// Of 12 and 31 the number that the block is made with is 3, of 21 it is 1.
	{[]int{0, 1, 2, 3, 4, 5, 6, 7, 8, 9, 10, lastEsi}, []rows.Row{{3, 104}, {40, 148}, {77, 192}, {114, 236}, {151, 24}, {188, 68}, {225, 112}, {6, 156}, {43, 200}, {80, 244}, {117, 32}, {249, 78}}},
}

// knownRuns are such ones of as many numbers, one behind the other, as there are source rows of one element each.
var knownRuns = []struct {
	from   int
	source []byte
}{
	{16, []byte{125, 133, 30, 186, 38, 84, 248, 133, 173, 140, 144, 30, 197, 134, 96, 70}},
	{lastEsi - 20, []byte{138, 199, 183, 39, 183, 249, 230, 29, 175, 129, 229, 88, 1, 156, 179, 208, 135, 78, 22, 9, 66}},
	{lastEsi - 30, []byte{240, 66, 127, 203, 191, 155, 60, 11, 165, 41, 45, 102, 199, 29, 212, 148, 134, 8, 29, 76, 0, 55, 236, 143, 88, 33, 160, 112, 169, 17, 19}},
	{40, []byte{224, 58, 23, 24, 245, 191, 158, 86, 129, 2, 187, 128, 233, 46, 108, 51, 26, 143, 245, 51, 171, 66, 175, 55, 150, 132, 160, 192, 178, 151, 138, 40, 128, 117, 41, 208, 3, 57, 14, 183}},
	{lastEsi - 39, []byte{167, 220, 214, 207, 158, 84, 118, 229, 30, 32, 71, 148, 20, 185, 4, 44, 62, 134, 106, 132, 250, 148, 44, 147, 248, 178, 154, 38, 95, 113, 30, 42, 146, 155, 196, 222, 143, 85, 10, 14}},
}

func TestP1101KnownBlocks(t *testing.T) {
	c := chance(1)
	for _, n := range known {
		k, size := len(n.source), len(n.source[0])
		l := with(n.esis, ruled(k, size))
		wants(t, "P1101: known", n.source, k, size, l...)
		wants(t, "P1101: known, in another order", n.source, k, size, c.turned(l)...)
	}
	for _, n := range knownRuns {
		var source []rows.Row
		for _, a := range n.source {
			source = append(source, rows.Row{a})
		}
		k := len(source)
		l := with(run(n.from, k), ruled(k, 1))
		wants(t, "P1101: known run", source, k, 1, l...)
		wants(t, "P1101: known run, in another order", source, k, 1, c.turned(l)...)
	}
}

// reach is how many numbers are just enough, worked out beside the program: from k on; from the last one downwards; and from there beside the first k - 1.
var reach = []struct{ k, fromK, fromLast, beside int }{
	{1, 2, 3, 3},
	{2, 3, 2, 1},
	{3, 4, 3, 1},
	{4, 4, 4, 1},
	{7, 7, 8, 1},
	{8, 8, 8, 1},
	{9, 11, 9, 1},
	{12, 13, 13, 1},
	{16, 16, 17, 1},
	{21, 24, 21, 1},
	{31, 31, 31, 1},
	{39, 40, 40, 1},
	{40, 40, 40, 2},
}

// justEnough tells where all of esis are not enough, or all but the last one are.
func justEnough(t *testing.T, k int, esis []int) {
	t.Helper()
	less := esis[:len(esis)-1]
	if !Enough(k, esis...) {
		t.Errorf("P1101: Enough(%d, %v): false; want true", k, esis)
	}
	if Enough(k, less...) {
		t.Errorf("P1101: Enough(%d, %v): true; want false", k, less)
	}
	source := ruled(k, 2)
	b := made(t, source)
	wants(t, "P1102: just enough", source, k, 2, symbols(t, b, esis...)...)
	refused(t, "P1102: one less than enough", api.ErrRank, k, 2, symbols(t, b, less...)...)
}

func TestP1101JustEnough(t *testing.T) {
	for _, n := range reach {
		justEnough(t, n.k, run(0, n.k))
		justEnough(t, n.k, run(n.k, n.fromK))
		justEnough(t, n.k, down(n.fromLast))
		justEnough(t, n.k, slices.Concat(run(0, n.k-1), down(n.beside)))
	}
}

// tooLittle are as many numbers as there are source rows, or many more, that are not enough, worked out beside the program.
var tooLittle = []struct {
	k    int
	esis []int
}{
	{1, []int{1, 4, 15, 27, 37, 38}},
	{1, []int{lastEsi}},
	{2, []int{1, 2}},
	{2, []int{0, 12, 16, 42, 129, 132, 149, 171, 175}},
	{3, []int{0, 2, 3}},
	{3, []int{0, 1, 16, 25, 39, 47, 55, 75, 76, 81, 105, 106}},
	{8, []int{0, 1, 2, 3, 4, 5, 6, 16, 30, 31, 33, 35, 59, 60, 61, 71, 74, 80, 87, 101, 116, 122, 124, 136, 151, 152, 160}},
	{12, []int{12, 13, 14, 15, 16, 17, 18, 19, 20, 21, 22, 23}},
	{21, []int{21, 22, 23, 24, 25, 26, 27, 28, 29, 30, 31, 32, 33, 34, 35, 36, 37, 38, 39, 40, 41, 42, 43}},
}

func TestP1101RankTooLittle(t *testing.T) {
	for _, n := range tooLittle {
		if Enough(n.k, n.esis...) {
			t.Errorf("P1101: Enough(%d, %v): true; want false", n.k, n.esis)
		}
		refused(t, "P1101: rank too little", api.ErrRank, n.k, 3, symbols(t, made(t, ruled(n.k, 3)), n.esis...)...)
		refused(t, "P1101: rank too little, of no block", api.ErrRank, n.k, 3, with(n.esis, ruled(len(n.esis), 3))...)
	}
}

func TestP1101TooFew(t *testing.T) {
	for k := 1; k <= api.MaxK; k++ {
		for _, size := range []int{1, api.MaxSize} {
			refused(t, "P1101: none", api.ErrRank, k, size)
			refused(t, "P1101: an empty list", api.ErrRank, k, size, []Drop{}...)
		}
	}
	for _, k := range []int{1, 2, 3, 8, 17, api.MaxK} {
		all := symbols(t, made(t, ruled(k, 4)), run(0, k)...)
		for out := range all {
			l := slices.Delete(slices.Clone(all), out, out+1)
			refused(t, "P1101: one is missing", api.ErrRank, k, 4, l...)
			if Enough(k, esisOf(l)...) {
				t.Errorf("P1101: Enough(%d) without %d: true; want false", k, out)
			}
			// One that is there twice is no other one.
			refused(t, "P1101: one is missing, all others twice", api.ErrRank, k, 4, slices.Concat(l, l)...)
			if Enough(k, esisOf(slices.Concat(l, l))...) {
				t.Errorf("P1101: Enough(%d) without %d, all others twice: true; want false", k, out)
			}
		}
		// What lies in the spare room isn't there.
		refused(t, "P1101: one in the spare room", api.ErrRank, k, 4, all[:k-1]...)
	}
}

// byWords is what Block does of arguments that can be, by the chapter's words.
func byWords(t *testing.T, k, size int, l []Drop) ([]rows.Row, api.Errno) {
	t.Helper()
	p, j := numbers(t, k)
	var d []rows.Row
	for range p.S + p.H {
		d = append(d, make(rows.Row, size))
	}
	var esis []int
	for _, x := range l {
		if !slices.Contains(esis, x.Esi) {
			esis, d = append(esis, x.Esi), append(d, x.Data)
		}
	}
	parts, err := solve.Solve(p.L(), size, precode.Matrix(p, j, esis...), d)
	if err != api.OK {
		return nil, err
	}
	return drops.Drops(p, j, size, parts, run(0, k)...), api.OK
}

// numbers are those of a block of k source rows, and the one that it is made with.
func numbers(t *testing.T, k int) (params.Params, int) {
	t.Helper()
	p, err := params.Of(k)
	if err != api.OK {
		t.Fatalf("Of(%d): error %d", k, err)
	}
	j, err := seed.Find(k)
	if err != api.OK {
		t.Fatalf("Find(%d): error %d", k, err)
	}
	return p, j
}

// drawn are about as many symbols as are needed, some of them twice; some of any block and some of one of which source are the rows.
func (c *chance) drawn(t *testing.T, source []rows.Row) []Drop {
	k := len(source)
	b := made(t, source)
	ofBlock := c.next(4) != 0
	var l []Drop
	for range max(k+c.next(6)-2, 0) {
		d := symbols(t, b, c.esi(k))[0]
		if !ofBlock {
			d.Data = c.rows(1, len(d.Data))[0]
		}
		l = append(l, d)
		if c.next(6) == 0 {
			l = append(l, Drop{d.Esi, c.rows(1, len(d.Data))[0]})
		}
	}
	return l
}

func TestP1101ByItsDefinition(t *testing.T) {
	c := chance(2)
	met := map[api.Errno]int{}
	for i := range 600 {
		k, size := 1+c.next(14), 1+c.next(6)
		if i%20 == 0 {
			k, size = 1+c.next(api.MaxK), 1+c.next(api.MaxSize)
		}
		l := c.drawn(t, c.rows(k, size))
		want, err := byWords(t, k, size, l)
		met[err]++
		if err == api.OK {
			wants(t, "P1101: by its definition", want, k, size, l...)
		} else {
			refused(t, "P1101: by its definition", err, k, size, l...)
		}
		p, j := numbers(t, k)
		enough := solve.Rank(p.L(), precode.Matrix(p, j, esisOf(l)...)...) == p.L()
		if got := Enough(k, esisOf(l)...); got != enough {
			t.Errorf("P1101: Enough(%d, %v): %v; want %v", k, esisOf(l), got, enough)
		}
	}
	if met[api.OK] < 100 || met[api.ErrRank] < 100 {
		t.Errorf("too few of a kind: %v", met)
	}
}

// As many symbols as there are source rows settle the block if they are enough, whatever their Data: that block has them.
func TestP1101AnyData(t *testing.T) {
	c := chance(3)
	for k := 1; k <= api.MaxK; k++ {
		data := c.rows(k, 5)
		wants(t, "P1101: the source's own numbers", data, k, 5, c.turned(with(run(0, k), data))...)
		esis := run(0, k)
		// One of any ten numbers or so will do in the last one's place.
		for try := range 100 {
			if esis[k-1] = k + 1000*try; Enough(k, esis...) {
				break
			}
		}
		l := with(esis, data)
		got, err := Block(k, 5, l...)
		if err != api.OK || len(got) != k {
			t.Fatalf("P1101: Block(%d) of %v: %v, error %d", k, esis, got, err)
		}
		if !sameDrops(symbols(t, made(t, got), esis...), l) {
			t.Errorf("P1101: Block(%d) of %v: the block that is told has other symbols", k, esis)
		}
	}
}

// Of several of one number the first counts, whichever Data the others have, and wherever they stand.
func TestP1101FirstCounts(t *testing.T) {
	c := chance(4)
	for _, k := range []int{1, 2, 9, api.MaxK} {
		source := c.rows(k, 3)
		b := made(t, source)
		l := symbols(t, b, run(0, k+3)...)
		for at, d := range l {
			other := Drop{d.Esi, c.rows(1, 3)[0]}
			for name, l := range map[string][]Drop{
				"the same at the end":    append(slices.Clone(l), d, d),
				"the same right behind":  slices.Insert(slices.Clone(l), at+1, d),
				"other Data at the end":  append(slices.Clone(l), other, other),
				"other Data behind":      slices.Insert(slices.Clone(l), at+1, other, other),
				"other Data and its own": append(slices.Clone(l), other, d),
			} {
				wants(t, "P1101: "+name, source, k, 3, l...)
			}
		}
		all := slices.Concat(l, with(run(0, k+3), c.rows(k+3, 3)))
		wants(t, "P1101: other Data of all", source, k, 3, all...)
	}
}

// Where other Data come first, these count: there is another block, or none.
func TestP1101FirstCountsThoughItIsWrong(t *testing.T) {
	c := chance(5)
	for _, k := range []int{1, 2, 9, api.MaxK} {
		ours, others := c.rows(k, 3), c.rows(k, 3)
		own, other := with(run(0, k), ours), with(run(0, k), others)
		wants(t, "P1101: another block first", others, k, 3, slices.Concat(other, own)...)
		mixed := slices.Clone(ours)
		mixed[k/2] = others[k/2]
		wants(t, "P1101: one of another block first", mixed, k, 3, slices.Insert(slices.Clone(own), 0, other[k/2])...)
		more := symbols(t, made(t, ours), run(0, k+6)...)
		wrong := Drop{0, slices.Clone(more[0].Data)}
		wrong.Data[2] ^= 1
		refused(t, "P1101: wrong Data first", api.ErrRank, k, 3, slices.Insert(more, 0, wrong)...)
	}
}

// without tells whether the others are enough when that one is left out.
func without(k int, l []Drop, out int) bool {
	return Enough(k, esisOf(slices.Delete(slices.Clone(l), out, out+1))...)
}

// A symbol that isn't needed has the Data that the others make it have, or there is no such block.
func TestP1101DataOfNoBlock(t *testing.T) {
	c := chance(6)
	met := 0
	for _, k := range []int{1, 2, 3, 8, 20, api.MaxK} {
		for _, l := range [][]Drop{
			symbols(t, made(t, c.rows(k, 4)), run(0, k+5)...),
			symbols(t, made(t, c.rows(k, 4)), slices.Concat(down(8), run(0, k))...),
		} {
			for i := range l {
				if !without(k, l, i) {
					continue
				}
				met++
				for at := range 4 {
					turned := cloned(l)
					turned[i].Data[at] ^= byte(1 << (i % 8))
					refused(t, "P1101: Data of no block", api.ErrRank, k, 4, turned...)
				}
			}
		}
	}
	if met < 100 {
		t.Errorf("too few that aren't needed: %d", met)
	}
	// Symbol 1 of a block of one row is 0 always.
	refused(t, "P1101: Data of no block", api.ErrRank, 1, 2, Drop{0, rows.Row{7, 8}}, Drop{1, rows.Row{0, 1}})
	refused(t, "P1101: Data of no block", api.ErrRank, 1, 2, Drop{1, rows.Row{1, 0}})
	wants(t, "P1101: Data of a block", []rows.Row{{7, 8}}, 1, 2, Drop{1, rows.Row{0, 0}}, Drop{0, rows.Row{7, 8}})
}

// Whatever a block's size, source and number of rows are, its symbols make it again.
func TestP1102SourceAgain(t *testing.T) {
	c := chance(7)
	for k := 1; k <= api.MaxK; k++ {
		for _, size := range []int{1, 2, 17, api.MaxSize - 1, api.MaxSize} {
			source := c.rows(k, size)
			b := made(t, source)
			own := symbols(t, b, run(0, k)...)
			beyond := symbols(t, b, run(k, k+6)...)
			last := symbols(t, b, down(k+6)...)
			wants(t, "P1102: the source's own", source, k, size, own...)
			wants(t, "P1102: the source's own, in another order", source, k, size, c.turned(own)...)
			wants(t, "P1102: beyond the source", source, k, size, beyond...)
			wants(t, "P1102: the last ones", source, k, size, last...)
			wants(t, "P1102: all of these", source, k, size, c.turned(slices.Concat(own, beyond, last))...)
			half := slices.Concat(own[:k/2], beyond[:k/2+1], last[:6])
			if !Enough(k, esisOf(half)...) {
				t.Fatalf("%v aren't enough of %d", esisOf(half), k)
			}
			wants(t, "P1102: some of each", source, k, size, c.turned(half)...)
		}
	}
}

func TestP1102SourceAgainOrErrRank(t *testing.T) {
	c := chance(8)
	met := map[bool]int{}
	for range 500 {
		k, size := 1+c.next(12), 1+c.next(4)
		source := c.rows(k, size)
		var esis []int
		for range k + c.next(4) {
			esis = append(esis, c.esi(k))
		}
		l := symbols(t, made(t, source), esis...)
		enough := Enough(k, esis...)
		met[enough]++
		if enough {
			wants(t, "P1102: enough", source, k, size, l...)
		} else {
			refused(t, "P1102: not enough", api.ErrRank, k, size, l...)
		}
	}
	if met[true] < 50 || met[false] < 50 {
		t.Errorf("too few of a kind: %v", met)
	}
}

func TestP1102ManyMoreThanNeeded(t *testing.T) {
	source := ruled(api.MaxK, 2)
	b := made(t, source)
	l := symbols(t, b, slices.Concat(run(0, 1500), down(500))...)
	wants(t, "P1102: many more", source, api.MaxK, 2, l...)
	l[1999].Data[1]++
	refused(t, "P1101: the last of many is of no block", api.ErrRank, api.MaxK, 2, l...)
}

func TestP1101Enough(t *testing.T) {
	for k := 1; k <= api.MaxK; k++ {
		own := run(0, k)
		for _, n := range []struct {
			name string
			esis []int
			want bool
		}{
			{"none", nil, false},
			{"an empty list", []int{}, false},
			{"the source's own", own, true},
			{"the source's own twice", slices.Concat(own, own), true},
			{"the source's own and one", append(run(0, k), lastEsi), true},
			{"the last of the source's own often", slices.Concat(own[:k-1], slices.Repeat(own[:k-1], 3)), false},
			{"in the spare room", own[:k-1], false},
			{"from k on", run(k, k+5), true},
			{"the last ones", down(k + 5), true},
			{"many", run(0, 2000), true},
		} {
			if got := Enough(k, n.esis...); got != n.want {
				t.Errorf("P1101: %s: Enough(%d, %v): %v; want %v", n.name, k, n.esis, got, n.want)
			}
		}
	}
}

func TestP1101EnoughOfWrong(t *testing.T) {
	for _, k := range wrongKs {
		for _, esis := range [][]int{nil, {0}, run(0, 48), run(0, 300), {-1}} {
			if Enough(k, esis...) {
				t.Errorf("P1101: Enough(%d, %v): true; want false", k, esis)
			}
		}
	}
	for _, esi := range wrongEsis {
		for _, k := range []int{1, 2, 9, api.MaxK} {
			for _, at := range []int{0, k / 2, k, k + 5} {
				if esis := slices.Insert(run(0, k+5), at, esi); Enough(k, esis...) {
					t.Errorf("P1101: Enough(%d, %v): true; want false", k, esis)
				}
			}
			if Enough(k, esi) {
				t.Errorf("P1101: Enough(%d, %d): true; want false", k, esi)
			}
		}
	}
}

func TestP1101WrongK(t *testing.T) {
	for _, k := range wrongKs {
		for _, size := range []int{1, 2, api.MaxSize} {
			refused(t, "P1101: no symbols", api.ErrArg, k, size)
			for _, n := range []int{1, 41, 48, 300} {
				refused(t, "P1101: symbols", api.ErrArg, k, size, with(run(0, n), ruled(n, size))...)
				refused(t, "P1101: symbols of another size", api.ErrArg, k, size, with(run(0, n), ruled(n, size+1))...)
			}
			refused(t, "P1101: an esi that can't be", api.ErrArg, k, size, Drop{-1, nil})
		}
		for _, size := range wrongSizes {
			refused(t, "P1101: size too", api.ErrArg, k, size)
			refused(t, "P1101: size too", api.ErrArg, k, size, Drop{math.MinInt, nil})
		}
	}
}

func TestP1101WrongSize(t *testing.T) {
	for _, size := range wrongSizes {
		for _, k := range []int{1, 2, 9, api.MaxK} {
			refused(t, "P1101: no symbols", api.ErrArg, k, size)
			// Data of that size if such Data can be, else of others: the size is looked at first.
			refused(t, "P1101: Data of that size", api.ErrArg, k, size, with(run(0, k), ruled(k, min(max(size, 0), 1001)))...)
			refused(t, "P1101: Data of 1", api.ErrArg, k, size, with(run(0, k), ruled(k, 1))...)
			refused(t, "P1101: Data of 64", api.ErrArg, k, size, with(run(0, k), ruled(k, api.MaxSize))...)
			refused(t, "P1101: an esi that can't be", api.ErrArg, k, size, Drop{api.MaxEsi, rows.Row{}})
		}
	}
}

func TestP1101WrongEsi(t *testing.T) {
	for _, esi := range wrongEsis {
		for _, k := range []int{1, 2, 9, api.MaxK} {
			l := symbols(t, made(t, ruled(k, 2)), run(0, k+2)...)
			for _, data := range []rows.Row{{1, 2}, {1}, {1, 2, 3}, nil} {
				wrong := Drop{esi, data}
				refused(t, "P1101: alone", api.ErrArg, k, 2, wrong)
				for at := range len(l) + 1 {
					refused(t, "P1101: beside enough", api.ErrArg, k, 2, slices.Insert(slices.Clone(l), at, wrong)...)
				}
				// Behind Data that can't be, and ahead of them: the numbers are looked at first.
				refused(t, "P1101: behind Data too long", api.ErrArg, k, 2, Drop{0, rows.Row{1, 2, 3}}, wrong)
				refused(t, "P1101: behind Data too short", api.ErrArg, k, 2, append(slices.Clone(l), Drop{1, nil}, wrong)...)
				refused(t, "P1101: ahead of Data too long", api.ErrArg, k, 2, wrong, Drop{0, rows.Row{1, 2, 3}})
				refused(t, "P1101: twice", api.ErrArg, k, 2, append(slices.Clone(l), wrong, wrong)...)
			}
		}
	}
}

func TestP1101WrongData(t *testing.T) {
	for _, k := range []int{1, 2, 9, api.MaxK} {
		for _, size := range []int{1, 2, 33, api.MaxSize} {
			l := symbols(t, made(t, ruled(k, size)), run(0, k+2)...)
			for _, data := range []rows.Row{
				nil, {}, make(rows.Row, size-1), make(rows.Row, size+1), make(rows.Row, 2*size), make(rows.Row, 1000),
				// Elements that lie in the spare room are none.
				make(rows.Row, size)[:size-1],
			} {
				for at := range l {
					wrong := slices.Clone(l)
					wrong[at].Data = data
					refused(t, "P1101: one", api.ErrSize, k, size, wrong...)
					// A number that was there before doesn't count, but its Data are looked at.
					refused(t, "P1101: a second one", api.ErrSize, k, size, append(slices.Clone(l), wrong[at])...)
				}
				// They are looked at though the symbols are too few, or of no block.
				refused(t, "P1101: alone", api.ErrSize, k, size, Drop{lastEsi, data})
				refused(t, "P1101: of no block", api.ErrSize, k, size, slices.Concat(with(run(0, k+9), ruled(k+9, size)), []Drop{{3, data}})...)
			}
		}
	}
}

// handed answers symbols within a greater list, whose Data lie within greater rows: all of the rows, all of the list, and what is handed in of it.
func handed(t *testing.T, k, size int, esis []int) (whole []rows.Row, list, l []Drop) {
	for _, d := range symbols(t, made(t, ruled(k, size)), append(slices.Clone(esis), 0, 1, 2)...) {
		row := slices.Concat(rows.Row{1, 2}, d.Data, rows.Row{3, 4, 5})
		whole = append(whole, row)
		list = append(list, Drop{d.Esi, row[2 : 2+size]})
	}
	return whole, list, list[:len(esis)]
}

// asked are a number of source rows, a size, and numbers of symbols.
type asked struct {
	k, size int
	esis    []int
}

// asks are of many kinds, those that are refused too.
func asks() []asked {
	return []asked{
		{1, 1, []int{0}},
		{1, api.MaxSize, []int{2, 2, 0}},
		{2, 3, []int{1, 2}},
		{3, 2, nil},
		{7, 1, run(7, 7)},
		{8, 16, append(down(8), 9, 8, 7, lastEsi)},
		{12, 4, slices.Concat(run(0, 11), []int{lastEsi}, run(0, 11))},
		{21, 9, run(21, 23)},
		{api.MaxK, 1, run(0, api.MaxK)},
		{api.MaxK, api.MaxSize, slices.Concat(down(30), run(3, 30))},
	}
}

func TestP1102HandedInStays(t *testing.T) {
	for _, a := range asks() {
		whole, list, l := handed(t, a.k, a.size, a.esis)
		wholeWas, listWas, _ := handed(t, a.k, a.size, a.esis)
		esis := append(esisOf(l), -7, -8)[:len(l)]
		Block(a.k, a.size, l...)
		Block(a.k, a.size+1, l...)
		Block(0, a.size, l...)
		Enough(a.k, esis...)
		Enough(0, esis...)
		if !same(whole, wholeWas) || !sameDrops(list, listWas) {
			t.Errorf("P1102: of %v, what was handed in to Block turned", a)
		}
		if !slices.Equal(esis, a.esis) || !slices.Equal(esis[len(l):len(l)+2], []int{-7, -8}) {
			t.Errorf("P1102: of %v, what was handed in to Enough turned: %v", a, esis)
		}
	}
}

// spoil turns all that the rows have, spare room too.
func spoil(l []rows.Row) {
	l = l[:cap(l)]
	for i, row := range l {
		row = row[:cap(row)]
		for at := range row {
			row[at] ^= 91
		}
		l[i] = rows.Row{1, 2, 3}
	}
}

func TestP1102NothingShared(t *testing.T) {
	for _, a := range asks() {
		whole, list, l := handed(t, a.k, a.size, a.esis)
		wholeWas, listWas, _ := handed(t, a.k, a.size, a.esis)
		want, err := Block(a.k, a.size, l...)
		if err != api.OK {
			continue
		}
		got, _ := Block(a.k, a.size, l...)
		spoil(want)
		if !same(got, ruled(a.k, a.size)) {
			t.Errorf("P1102: of %v, with one answer turned, another turned", a)
		}
		if !same(whole, wholeWas) || !sameDrops(list, listWas) {
			t.Errorf("P1102: of %v, with an answer turned, what was handed in turned", a)
		}
		for i := range got {
			spoil([]rows.Row{got[i]})
			rest := ruled(a.k, a.size)
			if !same(got[i+1:], rest[i+1:]) {
				t.Errorf("P1102: of %v, with one row of an answer turned, another turned", a)
			}
		}
		got, _ = Block(a.k, a.size, l...)
		if !same(got, ruled(a.k, a.size)) {
			t.Errorf("P1102: of %v, with an answer turned, a later one turned", a)
		}
		spoil(whole)
		clear(list)
		if !same(got, ruled(a.k, a.size)) {
			t.Errorf("P1102: of %v, an answer turned with what had been handed in", a)
		}
	}
}

// Nothing of what was handed in is kept for a later call.
func TestP1102NotKept(t *testing.T) {
	for _, a := range asks() {
		whole, list, l := handed(t, a.k, a.size, a.esis)
		_, want := Block(a.k, a.size, l...)
		spoil(whole)
		clear(list)
		_, _, l = handed(t, a.k, a.size, a.esis)
		got, err := Block(a.k, a.size, l...)
		if err != want || err == api.OK && !same(got, ruled(a.k, a.size)) {
			t.Errorf("P1102: of %v, with what had been handed in turned: %v, error %d; want error %d", a, got, err, want)
		}
		refused(t, "P1102: none", api.ErrRank, a.k, a.size)
	}
}

// Data may be one and the same row, and lie over one another.
func TestP1102DataThatShareMemory(t *testing.T) {
	long := ruled(1, 60)[0]
	for _, esis := range [][]int{run(0, 24), run(24, 24), down(24)} {
		var l []Drop
		for i, esi := range esis {
			l = append(l, Drop{esi, long[i : i+20]})
		}
		want, wantErr := Block(24, 20, cloned(l)...)
		got, err := Block(24, 20, l...)
		if err != wantErr || !same(got, want) {
			t.Errorf("P1102: of Data that share memory: %v, error %d; want %v, error %d", got, err, want, wantErr)
		}
		one := slices.Repeat([]Drop{{5, long[:20]}}, 30)
		refused(t, "P1102: one and the same", api.ErrRank, 24, 20, one...)
	}
}

// answer is what Block and Enough do.
type answer struct {
	source []rows.Row
	err    api.Errno
	enough bool
}

func (a answer) is(b answer) bool {
	return same(a.source, b.source) && a.err == b.err && a.enough == b.enough
}

// ask asks by number: those of asks first, and then ones that can't be.
func ask(t *testing.T, i int) answer {
	all := asks()
	a := all[i%len(all)]
	l := symbols(t, made(t, ruled(a.k, a.size)), a.esis...)
	switch i / len(all) {
	case 1:
		l = append(l, Drop{wrongEsis[i%len(all)], make(rows.Row, a.size)})
	case 2:
		l = append(l, Drop{3, make(rows.Row, a.size+1)})
	case 3:
		l = with(esisOf(l), ruled(len(l), a.size))
	}
	source, err := Block(a.k, a.size, l...)
	return answer{source, err, Enough(a.k, esisOf(l)...)}
}

func askAll(t *testing.T) []answer {
	var l []answer
	for i := range 4 * len(asks()) {
		l = append(l, ask(t, i))
	}
	return l
}

func TestP1102AnswersHangOnArgumentsAlone(t *testing.T) {
	first := askAll(t)
	if again := askAll(t); !slices.EqualFunc(first, again, answer.is) {
		t.Errorf("P1102: asked again: %v; at first %v", again, first)
	}
	for i, want := range slices.Backward(first) {
		if got := ask(t, i); !got.is(want) {
			t.Errorf("P1102: asked in another order: %v; at first %v", got, want)
		}
	}
	for i := range first {
		// 27 steps through 40 places meet each of them once.
		at := i * 27 % len(first)
		if got, again := ask(t, at), ask(t, at); !got.is(first[at]) || !again.is(first[at]) {
			t.Errorf("P1102: asked twice in a third order: %v, %v; at first %v", got, again, first[at])
		}
	}
}

func TestP1102AskedAtOnce(t *testing.T) {
	first := askAll(t)
	_, _, l := handed(t, api.MaxK, 8, run(20, api.MaxK+5))
	got := make([][]answer, 4)
	shared := make([][]rows.Row, 4)
	var all sync.WaitGroup
	for i := range got {
		all.Go(func() {
			got[i] = askAll(t)
			shared[i], _ = Block(api.MaxK, 8, l...)
		})
	}
	all.Wait()
	for i := range got {
		if !slices.EqualFunc(got[i], first, answer.is) {
			t.Errorf("P1102: asked by %d others at once: %v; at first %v", i, got[i], first)
		}
		if !same(shared[i], ruled(api.MaxK, 8)) {
			t.Errorf("P1102: of one list, asked by %d others at once: %v", i, shared[i])
		}
	}
}
