package precode

import (
	"math"
	"slices"
	"testing"

	"fountain/api"
	"fountain/field"
	"fountain/params"
	"fountain/random"
	"fountain/rows"
	"fountain/tuple"
)

const lastEsi = api.MaxEsi - 1

// block has the numbers of a block of k source symbols.
func block(t *testing.T, k int) params.Params {
	t.Helper()
	p, err := params.Of(k)
	if err != api.OK {
		t.Fatalf("Of(%d): error %d", k, err)
	}
	return p
}

// knownLow has the places at which each low row has 1, worked out beside the program.
var knownLow = []struct {
	k    int
	ones [][]int
}{
	{1, [][]int{{0, 1, 3}, {0, 2, 4}}},
	// Both words hold at 2 and 3.
	{2, [][]int{{0, 1, 2, 4}, {0, 1, 3, 5}}},
	// Both hold at 2 and 6 in the first row, at 3 in the second.
	{7, [][]int{{0, 1, 2, 4, 5, 6, 7, 9}, {0, 1, 3, 4, 5, 8, 10}}},
	// The first S of 3: places come round modulo it, and high ones modulo H.
	{8, [][]int{{0, 2, 3, 4, 6, 8, 11}, {0, 1, 4, 5, 7, 9, 12}, {1, 2, 3, 5, 10, 11}}},
	{40, [][]int{
		{0, 6, 7, 12, 14, 18, 21, 24, 28, 30, 35, 36, 40, 47},
		{0, 1, 8, 13, 15, 19, 22, 25, 29, 31, 36, 37, 41, 48},
		{1, 2, 7, 9, 16, 20, 23, 26, 30, 32, 37, 38, 42, 47},
		{2, 3, 8, 10, 14, 17, 24, 27, 31, 33, 38, 39, 43, 48},
		{3, 4, 9, 11, 15, 18, 21, 25, 32, 34, 39, 44, 47},
		{4, 5, 10, 12, 16, 19, 22, 26, 28, 33, 45, 48},
		{5, 6, 11, 13, 17, 20, 23, 27, 29, 34, 35, 46, 47},
	}},
}

// knownHigh has the elements below W of the two high rows of the greatest block, worked out beside the program; those of a smaller one are the first of these.
var knownHigh = []rows.Row{
	{
		21, 53, 15, 163, 31, 210, 46, 93, 178, 33, 76, 216, 102, 161, 65, 149, 3, 112, 234, 221, 170, 26, 88, 177,
		105, 107, 219, 48, 51, 212, 181, 123, 13, 122, 215, 220, 96, 117, 51, 255, 242, 70, 73, 57, 37, 26, 70,
	},
	{
		131, 249, 96, 101, 70, 85, 121, 38, 35, 121, 228, 74, 223, 255, 89, 16, 99, 161, 67, 197, 157, 158, 205, 65,
		223, 231, 228, 69, 146, 56, 176, 220, 203, 101, 101, 192, 159, 157, 21, 12, 58, 7, 33, 23, 120, 79, 16,
	},
}

// onesAt answers n elements: 1 at the places, else 0.
func onesAt(n int, places []int) rows.Row {
	row := make(rows.Row, n)
	for _, place := range places {
		row[place] = 1
	}
	return row
}

func same(a, b []rows.Row) bool {
	return slices.EqualFunc(a, b, func(x, y rows.Row) bool { return slices.Equal(x, y) })
}

func cloned(l []rows.Row) []rows.Row {
	var c []rows.Row
	for _, row := range l {
		c = append(c, slices.Clone(row))
	}
	return c
}

func TestP701KnownLow(t *testing.T) {
	for _, n := range knownLow {
		p := block(t, n.k)
		got := Low(p)
		if len(got) != len(n.ones) {
			t.Fatalf("P701: Low(%v): %d rows; want %d", p, len(got), len(n.ones))
		}
		for i, ones := range n.ones {
			if want := onesAt(p.L(), ones); !slices.Equal(got[i], want) {
				t.Errorf("P701: Low(%v), row %d: %v; want %v", p, i, got[i], want)
			}
		}
	}
}

// lowOf is row i by the chapter's words, one place behind the other; and tells at how many places both of these hold.
func lowOf(p params.Params, i int) (row rows.Row, both int) {
	for c := range p.K {
		first, second := c%p.S == i, (c/p.S+c+1)%p.S == i
		switch {
		case first && second:
			both++
			row = append(row, 1)
		case first || second:
			row = append(row, 1)
		default:
			row = append(row, 0)
		}
	}
	for s := range p.S {
		row = append(row, is(s == i))
	}
	for h := range p.H {
		row = append(row, is(h == i%p.H))
	}
	return row, both
}

// is answers 1 of what holds, else 0.
func is(holds bool) byte {
	if holds {
		return 1
	}
	return 0
}

func TestP701LowByItsDefinition(t *testing.T) {
	met := 0
	for k := 1; k <= api.MaxK; k++ {
		p := block(t, k)
		got := Low(p)
		if len(got) != p.S {
			t.Fatalf("P701: Low(%v): %d rows; want %d", p, len(got), p.S)
		}
		for i, row := range got {
			want, both := lowOf(p, i)
			if !slices.Equal(row, want) {
				t.Errorf("P701: Low(%v), row %d: %v; want %v", p, i, row, want)
			}
			met += both
		}
	}
	if met < 100 {
		t.Errorf("P701: both words held at %d places alone", met)
	}
}

// Each source place is in two low rows, or in one alone where both words hold.
func TestP701LowColumns(t *testing.T) {
	for k := 1; k <= api.MaxK; k++ {
		p := block(t, k)
		low := Low(p)
		for c := range p.K {
			want := 2
			if c/p.S%p.S == p.S-1 {
				want = 1
			}
			got := 0
			for _, row := range low {
				got += int(row[c])
			}
			if got != want {
				t.Errorf("P701: Low(%v), place %d: in %d rows; want %d", p, c, got, want)
			}
		}
	}
}

func TestP701LowBehindTheSource(t *testing.T) {
	for k := 1; k <= api.MaxK; k++ {
		p := block(t, k)
		for i, row := range Low(p) {
			if want := onesAt(p.L(), []int{p.K + i, p.W() + i%2})[p.K:]; !slices.Equal(row[p.K:], want) {
				t.Errorf("P701: Low(%v), row %d behind K: %v; want %v", p, i, row[p.K:], want)
			}
		}
	}
}

func TestP701KnownHigh(t *testing.T) {
	for k := 1; k <= api.MaxK; k++ {
		p := block(t, k)
		got := High(p)
		want := []rows.Row{
			append(slices.Clone(knownHigh[0][:p.W()]), 1, 0),
			append(slices.Clone(knownHigh[1][:p.W()]), 0, 1),
		}
		if !same(got, want) {
			t.Errorf("P701: High(%v): %v; want %v", p, got, want)
		}
	}
}

func TestP701HighByItsDefinition(t *testing.T) {
	for k := 1; k <= api.MaxK; k++ {
		p := block(t, k)
		got := High(p)
		if len(got) != p.H {
			t.Fatalf("P701: High(%v): %d rows; want %d", p, len(got), p.H)
		}
		for h, row := range got {
			var want rows.Row
			for c := range p.W() {
				want = append(want, field.Power(random.Rand(uint32(c), uint32(h)+7, 255)))
			}
			for i := range p.H {
				want = append(want, is(i == h))
			}
			if !slices.Equal(row, want) {
				t.Errorf("P701: High(%v), row %d: %v; want %v", p, h, row, want)
			}
		}
	}
}

func TestP701KnownMatrix(t *testing.T) {
	for _, n := range []struct {
		k, j int
		esis []int
		rows []rows.Row
	}{
		{1, 0, nil, []rows.Row{{1, 1, 0, 1, 0}, {1, 0, 1, 0, 1}, {21, 53, 15, 1, 0}, {131, 249, 96, 0, 1}}},
		{1, 0, []int{0}, []rows.Row{
			{1, 1, 0, 1, 0}, {1, 0, 1, 0, 1}, {21, 53, 15, 1, 0}, {131, 249, 96, 0, 1},
			{0, 0, 1, 0, 1},
		}},
		{1, 255, []int{lastEsi, 0, lastEsi}, []rows.Row{
			{1, 1, 0, 1, 0}, {1, 0, 1, 0, 1}, {21, 53, 15, 1, 0}, {131, 249, 96, 0, 1},
			{1, 1, 0, 0, 1}, {1, 1, 1, 0, 1}, {1, 1, 0, 0, 1},
		}},
		{2, 0, []int{12, 8}, []rows.Row{
			{1, 1, 1, 0, 1, 0}, {1, 1, 0, 1, 0, 1}, {21, 53, 15, 163, 1, 0}, {131, 249, 96, 101, 0, 1},
			{1, 1, 0, 1, 0, 1}, {1, 1, 1, 1, 1, 0},
		}},
	} {
		if got := Matrix(block(t, n.k), n.j, n.esis...); !same(got, n.rows) {
			t.Errorf("P701: Matrix of k %d, %d, %v: %v; want %v", n.k, n.j, n.esis, got, n.rows)
		}
	}
}

// lists are numbers of symbols that can be: none, one, many, one of them twice, the first and the last ones, rising or not.
func lists() [][]int {
	many := make([]int, 300)
	for i := range many {
		many[i] = (i * 55927) % api.MaxEsi
	}
	return [][]int{nil, {}, {0}, {lastEsi}, {39}, {0, lastEsi}, {lastEsi, 0}, {5, 5}, {5, 7, 5}, {3, 2, 1, 0}, {1 << 23, 40, 1<<23 + 1, 41, 40}, many}
}

// matrixOf is the matrix by the chapter's words.
func matrixOf(p params.Params, j int, esis []int) []rows.Row {
	want := append(Low(p), High(p)...)
	for _, esi := range esis {
		want = append(want, tuple.Row(p, j, esi))
	}
	return want
}

func TestP701MatrixByItsDefinition(t *testing.T) {
	for k := 1; k <= api.MaxK; k++ {
		p := block(t, k)
		for _, j := range []int{0, 1, 77, 128, 254, 255} {
			for _, esis := range lists() {
				got := Matrix(p, j, esis...)
				if want := matrixOf(p, j, esis); !same(got, want) {
					t.Fatalf("P701: Matrix(%v, %d, %v): %v; want %v", p, j, esis, got, want)
				}
				if len(got) != p.S+p.H+len(esis) {
					t.Fatalf("P701: Matrix(%v, %d, %v): %d rows; want %d", p, j, esis, len(got), p.S+p.H+len(esis))
				}
			}
		}
	}
}

func TestP701AllRowsHaveLElements(t *testing.T) {
	for k := 1; k <= api.MaxK; k++ {
		p := block(t, k)
		for _, l := range [][]rows.Row{Low(p), High(p), Matrix(p, 9), Matrix(p, 9, 0, 4, lastEsi)} {
			if len(l) == 0 {
				t.Errorf("P701: of %v: no rows", p)
			}
			for i, row := range l {
				if len(row) != p.L() {
					t.Errorf("P701: of %v, row %d: %d elements; want %d", p, i, len(row), p.L())
				}
			}
		}
	}
}

// Of no symbols the rows do not hang on j; of symbols theirs alone do.
func TestP701LowAndHighWithEachJ(t *testing.T) {
	p := block(t, 24)
	ahead := p.S + p.H
	want := Matrix(p, 0)
	for j := range 256 {
		if got := Matrix(p, j); !same(got, want) {
			t.Fatalf("P701: Matrix(%v, %d): %v; want %v", p, j, got, want)
		}
		got := Matrix(p, j, 6)
		if len(got) != ahead+1 || !same(got[:ahead], want) || !slices.Equal(got[ahead], tuple.Row(p, j, 6)) {
			t.Fatalf("P701: Matrix(%v, %d, 6): %v", p, j, got)
		}
	}
}

// noRows tells where there are rows of no block.
func noRows(t *testing.T, p params.Params) {
	t.Helper()
	if got := Low(p); len(got) != 0 {
		t.Errorf("P701: Low(%v): %v; want nothing", p, got)
	}
	if got := High(p); len(got) != 0 {
		t.Errorf("P701: High(%v): %v; want nothing", p, got)
	}
	for _, j := range []int{0, 255, -1, 256} {
		for _, esis := range [][]int{nil, {0}, {0, lastEsi}, {-1}} {
			noMatrix(t, p, j, esis...)
		}
	}
}

func noMatrix(t *testing.T, p params.Params, j int, esis ...int) {
	t.Helper()
	if got := Matrix(p, j, esis...); len(got) != 0 {
		t.Errorf("P701: Matrix(%v, %d, %v): %d rows; want nothing", p, j, esis, len(got))
	}
}

func TestP701NoBlock(t *testing.T) {
	for _, p := range []params.Params{
		{}, {K: 1}, {S: 2}, {H: 2}, {K: 1, S: 2}, {K: 1, H: 2}, {S: 2, H: 2},
		{K: 0, S: 2, H: 2}, {K: -1, S: 2, H: 2}, {K: -1, S: 1, H: 2}, {K: -8, S: 1, H: 2}, {K: -1, S: -2, H: -2}, {K: -1, S: -1, H: -1},
		{K: 41, S: 7, H: 2}, {K: 48, S: 8, H: 2}, {K: 1000, S: 127, H: 2}, {K: 1<<32 + 1, S: 2, H: 2}, {K: 1, S: 1<<32 + 2, H: 2},
		{K: 1 << 62, S: 1 << 62, H: 1 << 62}, {K: math.MaxInt, S: 2 + math.MaxInt/8, H: 2}, {K: math.MinInt, S: 2 + math.MinInt/8, H: 2},
		{K: 1, S: math.MaxInt, H: 2}, {K: 1, S: 2, H: math.MaxInt}, {K: 1, S: math.MinInt, H: 2}, {K: 1, S: 2, H: math.MinInt},
		{K: math.MaxInt, S: math.MaxInt, H: math.MaxInt}, {K: math.MinInt, S: math.MinInt, H: math.MinInt},
	} {
		noRows(t, p)
	}
}

func TestP701OneNumberOff(t *testing.T) {
	for k := 1; k <= api.MaxK; k++ {
		p := block(t, k)
		for _, off := range []params.Params{
			{K: k, S: p.S - 1, H: p.H}, {K: k, S: p.S + 1, H: p.H}, {K: k, S: -p.S, H: p.H}, {K: k, H: p.H},
			{K: k, S: p.S, H: p.H - 1}, {K: k, S: p.S, H: p.H + 1}, {K: k, S: p.S, H: -p.H}, {K: k, S: p.S},
			{K: k - 8, S: p.S, H: p.H}, {K: k + 8, S: p.S, H: p.H}, {K: -k, S: p.S, H: p.H}, {S: p.S, H: p.H},
		} {
			noRows(t, off)
		}
	}
}

func TestP701NoJ(t *testing.T) {
	for _, k := range []int{1, 9, api.MaxK} {
		p := block(t, k)
		for _, j := range []int{-1, -2, -255, -256, 256, 257, 512, 1 << 16, 1 << 32, -1 << 32, 1<<32 + 1, math.MinInt, math.MaxInt} {
			noMatrix(t, p, j)
			noMatrix(t, p, j, 0)
			noMatrix(t, p, j, 0, 1, lastEsi)
			noMatrix(t, p, j, -1)
		}
	}
}

func TestP701NoEsi(t *testing.T) {
	for _, k := range []int{1, 9, api.MaxK} {
		p := block(t, k)
		for _, esi := range []int{-1, -2, -lastEsi, -api.MaxEsi, api.MaxEsi, api.MaxEsi + 1, 1 << 25, 1 << 32, -1 << 32, 1<<32 + 1, math.MinInt, math.MaxInt} {
			noMatrix(t, p, 0, esi)
			noMatrix(t, p, 255, esi, esi)
			noMatrix(t, p, 0, esi, 0, 1, 2)
			noMatrix(t, p, 0, 0, esi, 1, 2)
			noMatrix(t, p, 0, 0, 1, 2, esi)
			noMatrix(t, p, 256, esi, 0)
		}
	}
}

// Esis are handed in with room ahead of them and behind; all of it stays.
func TestP702EsisStay(t *testing.T) {
	p := block(t, 11)
	for _, esis := range [][]int{{7, 3, 3, 0, lastEsi, 12}, {7, 3, -1, 0, 9, 12}, {7, 0, 0, api.MaxEsi, 3, 12}} {
		kept := slices.Clone(esis)
		for from := range esis {
			for to := from; to <= len(esis); to++ {
				Matrix(p, 5, esis[from:to]...)
				if !slices.Equal(esis, kept) {
					t.Fatalf("P702: with Matrix of those from %d to %d: %v; were %v", from, to, esis, kept)
				}
			}
		}
	}
}

func TestP702EsisAreNotKept(t *testing.T) {
	p := block(t, 11)
	esis := []int{7, 3, 0}
	got := Matrix(p, 5, esis...)
	kept := cloned(got)
	copy(esis, []int{1, 1, 1})
	if !same(got, kept) {
		t.Error("P702: an answer turned with the esis that had been handed in")
	}
	if again := Matrix(p, 5, 7, 3, 0); !same(again, kept) {
		t.Errorf("P702: with esis changed, Matrix of the same ones: %v; at first %v", again, kept)
	}
}

// asked is one call's arguments.
type asked struct {
	p    params.Params
	j    int
	esis []int
}

// asks are arguments of many kinds, those that have no answer too.
func asks(t *testing.T) []asked {
	var l []asked
	for _, k := range []int{1, 2, 7, 8, 23, 39, api.MaxK} {
		p := block(t, k)
		for i, esis := range lists() {
			l = append(l, asked{p, i * 23, esis}, asked{p, 256 + i, esis}, asked{params.Params{K: k}, 1, esis})
		}
		l = append(l, asked{p, 0, []int{0, -1}})
	}
	return l
}

// ask answers what all three calls do.
func ask(a asked) [][]rows.Row {
	return [][]rows.Row{Low(a.p), High(a.p), Matrix(a.p, a.j, a.esis...)}
}

func sameAnswers(a, b [][]rows.Row) bool { return slices.EqualFunc(a, b, same) }

func TestP702AnswersHangOnArgumentsAlone(t *testing.T) {
	l := asks(t)
	first := make([][][]rows.Row, len(l))
	for i, a := range l {
		first[i] = ask(a)
	}
	for i, a := range l {
		if got := ask(a); !sameAnswers(got, first[i]) {
			t.Errorf("P702: asked again, of %v: other rows", a)
		}
	}
	for i, a := range slices.Backward(l) {
		if got := ask(a); !sameAnswers(got, first[i]) {
			t.Errorf("P702: asked in another order, of %v: other rows", a)
		}
	}
}

// spoil fills all that the rows have, spare room too.
func spoil(l []rows.Row) {
	for _, row := range l {
		row = row[:cap(row)]
		for at := range row {
			row[at] = 99
		}
	}
	l = l[:cap(l)]
	for i := range l {
		l[i] = rows.Row{77}
	}
}

func TestP702NewMemory(t *testing.T) {
	for _, a := range asks(t) {
		got := ask(a)
		var kept [][]rows.Row
		for _, l := range got {
			kept = append(kept, cloned(l))
		}
		for i, l := range ask(a) {
			spoil(l)
			if !sameAnswers(got, kept) {
				t.Errorf("P702: answer %d of %v shares memory with others", i, a)
			}
			if again := ask(a); !sameAnswers(again, kept) {
				t.Errorf("P702: with answer %d of %v turned: other rows", i, a)
			}
		}
	}
}

// Each row of an answer is its own: turned, spare room too, none of the others turns.
func TestP702EachRowIsItsOwn(t *testing.T) {
	for _, k := range []int{1, 8, api.MaxK} {
		p := block(t, k)
		for _, call := range []func() []rows.Row{
			func() []rows.Row { return Low(p) },
			func() []rows.Row { return High(p) },
			func() []rows.Row { return Matrix(p, 1, 4, 4, 9, 4) },
		} {
			want := call()
			for i := range want {
				l := call()
				spoil(l[i : i+1 : i+1])
				l[i] = want[i]
				if !same(l, want) {
					t.Errorf("P702: of %v, with row %d turned: others turned too", p, i)
				}
			}
		}
	}
}
