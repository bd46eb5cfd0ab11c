package tuple

import (
	"math"
	"slices"
	"testing"

	"fountain/api"
	"fountain/params"
	"fountain/random"
	"fountain/rows"
)

const lastEsi = api.MaxEsi - 1

// known are symbols whose parts were worked out beside the program.
var known = []struct {
	k, j, esi int
	parts     []int
}{
	// The first and the last of all numbers.
	{1, 0, 0, []int{2, 4}},
	{1, 0, lastEsi, []int{0, 2, 4}},
	{1, 255, 0, []int{2, 1, 0, 4}},
	{1, 255, lastEsi, []int{1, 0, 4}},
	{40, 0, 0, []int{16, 48}},
	{40, 0, lastEsi, []int{6, 22, 48}},
	{40, 255, 0, []int{37, 4, 18, 48}},
	{40, 255, lastEsi, []int{8, 40, 48}},
	// The first one behind W.
	{1, 0, 1, []int{0, 1, 3}},
	{40, 0, 1, []int{17, 22, 47}},
	// A degree of 8 is drawn, and W is 3, 4, 8, or 9.
	{1, 1, 0, []int{0, 1, 2, 4}},
	{2, 1, 0, []int{2, 0, 3, 1, 5}},
	{6, 0, 22, []int{5, 7, 1, 3, 6, 0, 2, 4, 8}},
	{7, 1, 0, []int{3, 6, 0, 4, 7, 1, 5, 8, 10}},
	// Round from the last place to the first, without one that was met.
	{40, 1, 0, []int{41, 42, 43, 44, 45, 46, 0, 1, 48}},
	// One that was met already, from the last place to the first among them, and of several behind each other.
	{2, 0, 8, []int{3, 1, 0, 2, 4}},
	{2, 0, 12, []int{3, 1, 0, 5}},
	{6, 0, 3, []int{6, 2, 7, 3, 0, 4, 1, 5, 9}},
	{7, 0, 3, []int{8, 5, 2, 0, 6, 3, 1, 7, 10}},
	{7, 0, 29, []int{1, 7, 4, 2, 8, 5, 3, 0, 10}},
	{13, 1, 21, []int{12, 4, 13, 5, 14, 6, 16}},
	{13, 1, 24, []int{15, 11, 7, 3, 0, 12, 8, 4, 17}},
	{13, 254, 34, []int{5, 13, 6, 14, 7, 15, 8, 0, 16}},
	{16, 0, 34, []int{7, 3, 19, 15, 11, 8, 4, 0, 20}},
	{22, 0, 2, []int{25, 12, 0, 13, 1, 27}},
	{25, 0, 1 << 23, []int{5, 29, 23, 17, 11, 6, 0, 24, 30}},
	{38, 0, 1 << 23, []int{17, 39, 18, 40, 19, 41, 20, 42, 44}},
	// Numbers in between.
	{9, 77, 123456, []int{6, 8, 12}},
	{24, 77, 123456, []int{15, 13, 29}},
	{39, 255, 0, []int{26, 40, 9, 46}},
}

// block has the numbers of a block of k source symbols.
func block(t *testing.T, k int) params.Params {
	t.Helper()
	p, err := params.Of(k)
	if err != api.OK {
		t.Fatalf("Of(%d): error %d", k, err)
	}
	return p
}

// drawn are the chapter's words d, a and b, and the degree ahead of its cut.
type drawn struct{ degree, d, a, b int }

func draw(w int, y uint32) drawn {
	degree := random.Degree(random.Rand(y, 0, 1<<20))
	return drawn{degree, min(degree, w), 1 + random.Rand(y, 1, w-1), random.Rand(y, 2, w)}
}

// number is the chapter's word y.
func number(j, esi int) uint32 {
	return uint32((int64(j)*65537 + int64(esi)*31) % (1 << 32))
}

// walk finds the parts by the chapter's words, one place behind the other on a ring; and tells whether one was met already, and whether a next one lay round the end.
func walk(w int, y uint32) (parts []int, again, round bool) {
	c := draw(w, y)
	ring := make([]bool, w)
	for i := range c.d {
		at := c.b
		for range i * c.a {
			at++
			if at == w {
				at = 0
			}
		}
		for ring[at] {
			again = true
			at++
			if at == w {
				at, round = 0, true
			}
		}
		ring[at] = true
		parts = append(parts, at)
	}
	return append(parts, w+random.Rand(y, 3, 2)), again, round
}

// esis are numbers of symbols: the first ones, those about k, the last ones, and some between.
func esis(k int) []int {
	l := []int{k - 1, k, k + 1, 255, 256, 65535, 65536, 123456, 1 << 20, 1 << 23, lastEsi - 1, lastEsi}
	for esi := range 60 {
		l = append(l, esi, esi*277777)
	}
	return l
}

func js() []int { return []int{0, 1, 2, 77, 127, 128, 254, 255} }

// isRow tells whether row has L elements: 1 at the parts, else 0.
func isRow(row rows.Row, p params.Params, parts []int) bool {
	if len(row) != p.L() {
		return false
	}
	for i, a := range row {
		want := byte(0)
		if slices.Contains(parts, i) {
			want = 1
		}
		if a != want {
			return false
		}
	}
	return true
}

func TestP601KnownParts(t *testing.T) {
	for _, n := range known {
		p := block(t, n.k)
		if got := Parts(p, n.j, n.esi); !slices.Equal(got, n.parts) {
			t.Errorf("P601: Parts(%v, %d, %d): %v; want %v", p, n.j, n.esi, got, n.parts)
		}
		if got := Row(p, n.j, n.esi); !isRow(got, p, n.parts) {
			t.Errorf("P601: Row(%v, %d, %d): %v; want 1 at %v alone of %d", p, n.j, n.esi, got, n.parts, p.L())
		}
	}
}

func TestP601KnownRow(t *testing.T) {
	for _, n := range []struct {
		k, j, esi int
		row       rows.Row
	}{
		{1, 0, 0, rows.Row{0, 0, 1, 0, 1}},
		{1, 0, 1, rows.Row{1, 1, 0, 1, 0}},
		{2, 0, 12, rows.Row{1, 1, 0, 1, 0, 1}},
		{7, 0, 3, rows.Row{1, 1, 1, 1, 0, 1, 1, 1, 1, 0, 1}},
	} {
		if got := Row(block(t, n.k), n.j, n.esi); !slices.Equal(got, n.row) {
			t.Errorf("P601: Row of k %d, %d, %d: %v; want %v", n.k, n.j, n.esi, got, n.row)
		}
	}
}

func TestP601ByItsDefinition(t *testing.T) {
	degrees := make([]int, 9)
	cut, met, rounds := 0, 0, 0
	for k := 1; k <= api.MaxK; k++ {
		p := block(t, k)
		for _, j := range js() {
			for _, esi := range esis(k) {
				y := number(j, esi)
				want, again, round := walk(p.W(), y)
				if got := Parts(p, j, esi); !slices.Equal(got, want) {
					t.Fatalf("P601: Parts(%v, %d, %d): %v; want %v", p, j, esi, got, want)
				}
				if got := Row(p, j, esi); !isRow(got, p, want) {
					t.Fatalf("P601: Row(%v, %d, %d): %v; want 1 at %v alone of %d", p, j, esi, got, want, p.L())
				}
				c := draw(p.W(), y)
				degrees[c.d]++
				cut += c.degree - c.d
				if again {
					met++
				}
				if round {
					rounds++
				}
			}
		}
	}
	if slices.Min(degrees[1:]) < 100 || cut < 100 || met < 100 || rounds < 100 {
		t.Errorf("too few were asked: %v of each degree, %d cut off, %d met again, %d of these round the end", degrees[1:], cut, met, rounds)
	}
}

// Whatever the draws: so many places below W, none of them twice, and one behind them.
func TestP601EachJ(t *testing.T) {
	for _, k := range []int{1, 2, 6, 8, 39, api.MaxK} {
		p := block(t, k)
		for j := range 256 {
			for _, esi := range []int{0, k, lastEsi} {
				got := Parts(p, j, esi)
				d := draw(p.W(), number(j, esi)).d
				if len(got) != d+1 || slices.Max(got[:d]) >= p.W() || slices.Min(got) < 0 {
					t.Fatalf("P601: Parts(%v, %d, %d): %v; want %d places below %d and one more", p, j, esi, got, d, p.W())
				}
				if got[d] != p.W() && got[d] != p.W()+1 {
					t.Fatalf("P601: Parts(%v, %d, %d): %v; want the last place %d or %d", p, j, esi, got, p.W(), p.W()+1)
				}
				slices.Sort(got)
				if len(slices.Compact(got)) != d+1 {
					t.Fatalf("P601: Parts(%v, %d, %d): a place twice", p, j, esi)
				}
			}
		}
	}
}

// Which of the H places behind W it is hangs on what is drawn; each of them is met.
func TestP601OneBehindW(t *testing.T) {
	for _, k := range []int{1, 20, api.MaxK} {
		p := block(t, k)
		met := make([]int, p.H)
		for esi := range 200 {
			got := Parts(p, 3, esi)
			for h := range met {
				if slices.Contains(got, p.W()+h) {
					met[h]++
				}
			}
		}
		if slices.Min(met) < 50 || met[0]+met[1] != 200 {
			t.Errorf("P601: of 200 symbols of %v, so many with each place behind W: %v", p, met)
		}
	}
}

// none tells where there are parts or a row that can't be.
func none(t *testing.T, p params.Params, j, esi int) {
	t.Helper()
	if got := Parts(p, j, esi); len(got) != 0 {
		t.Errorf("P601: Parts(%v, %d, %d): %v; want nothing", p, j, esi, got)
	}
	if got := Row(p, j, esi); len(got) != 0 {
		t.Errorf("P601: Row(%v, %d, %d): %v; want nothing", p, j, esi, got)
	}
}

func TestP601NoBlock(t *testing.T) {
	wrong := []params.Params{
		{}, {K: 1}, {S: 2}, {H: 2}, {K: 1, S: 2}, {K: 1, H: 2}, {S: 2, H: 2},
		{K: 2, S: 1, H: 2}, {K: 1, S: 2, H: 3}, {K: 7, S: 3, H: 2}, {K: 8, S: 2, H: 2}, {K: 39, S: 7, H: 2}, {K: 40, S: 6, H: 2},
		{K: 0, S: 2, H: 2}, {K: -1, S: 2, H: 2}, {K: -1, S: 1, H: 2}, {K: -8, S: 1, H: 2}, {K: -7, S: 2, H: 2},
		{K: 41, S: 7, H: 2}, {K: 48, S: 8, H: 2}, {K: 1000, S: 127, H: 2}, {K: 1<<32 + 1, S: 2, H: 2},
		{K: 1, S: 1<<32 + 2, H: 2}, {K: 1, S: 2, H: 1<<32 + 2}, {K: -1, S: -2, H: -2}, {K: 1 << 62, S: 1 << 62, H: 1 << 62},
		{K: math.MaxInt, S: 2 + math.MaxInt/8, H: 2}, {K: math.MinInt, S: 2 + math.MinInt/8, H: 2},
		{K: math.MaxInt, S: math.MaxInt, H: math.MaxInt}, {K: math.MinInt, S: math.MinInt, H: math.MinInt},
		{K: 1, S: math.MaxInt, H: 2}, {K: 1, S: 2, H: math.MinInt},
	}
	for _, p := range wrong {
		for _, j := range []int{0, 255} {
			for _, esi := range []int{0, 1, lastEsi} {
				none(t, p, j, esi)
			}
		}
		none(t, p, -1, api.MaxEsi)
	}
}

func TestP601OneNumberOff(t *testing.T) {
	for k := 1; k <= api.MaxK; k++ {
		p := block(t, k)
		for _, off := range []params.Params{
			{K: k, S: p.S - 1, H: p.H}, {K: k, S: p.S + 1, H: p.H}, {K: k, S: -p.S, H: p.H}, {K: k, H: p.H},
			{K: k, S: p.S, H: p.H - 1}, {K: k, S: p.S, H: p.H + 1}, {K: k, S: p.S, H: -p.H}, {K: k, S: p.S},
			{K: k, S: p.S - 1, H: p.H + 1}, {K: k, S: p.S + 1, H: p.H - 1}, {K: k, S: p.H, H: p.S + 1}, {K: k + 1, S: p.S - 1, H: p.H},
			{K: k - 8, S: p.S, H: p.H}, {K: k + 8, S: p.S, H: p.H}, {K: -k, S: p.S, H: p.H}, {S: p.S, H: p.H},
		} {
			none(t, off, 0, 0)
		}
	}
}

func TestP601NoSymbol(t *testing.T) {
	for _, k := range []int{1, 9, api.MaxK} {
		p := block(t, k)
		for _, j := range []int{-1, -2, -255, -256, 256, 257, 512, 1 << 16, 1 << 32, -1 << 32, 1<<32 + 1, math.MinInt, math.MaxInt} {
			none(t, p, j, 0)
			none(t, p, j, lastEsi)
			none(t, p, j, -1)
		}
		for _, esi := range []int{-1, -2, -lastEsi, -api.MaxEsi, api.MaxEsi, api.MaxEsi + 1, 1 << 25, 1 << 32, -1 << 32, 1<<32 + 1, math.MinInt, math.MaxInt} {
			none(t, p, 0, esi)
			none(t, p, 255, esi)
			none(t, p, 256, esi)
		}
	}
}

// asked is one call's arguments.
type asked struct {
	p      params.Params
	j, esi int
}

// asks are arguments of many kinds, those that have no answer too.
func asks(t *testing.T) []asked {
	var l []asked
	for _, n := range known {
		p := block(t, n.k)
		l = append(l, asked{p, n.j, n.esi}, asked{p, n.esi, n.j}, asked{params.Params{K: n.k}, n.j, n.esi}, asked{p, n.j, n.j})
	}
	return l
}

// answer is what both calls answer.
type answer struct {
	parts []int
	row   rows.Row
}

func ask(a asked) answer { return answer{Parts(a.p, a.j, a.esi), Row(a.p, a.j, a.esi)} }

func (a answer) same(b answer) bool {
	return slices.Equal(a.parts, b.parts) && slices.Equal(a.row, b.row)
}

func TestP602AnswersHangOnArgumentsAlone(t *testing.T) {
	l := asks(t)
	first := make([]answer, len(l))
	for i, a := range l {
		first[i] = ask(a)
	}
	for i, a := range l {
		if got := ask(a); !got.same(first[i]) {
			t.Errorf("P602: asked again, of %v: %v; at first %v", a, got, first[i])
		}
	}
	for i, a := range slices.Backward(l) {
		if got := ask(a); !got.same(first[i]) {
			t.Errorf("P602: asked in another order, of %v: %v; at first %v", a, got, first[i])
		}
	}
}

func TestP602NewMemory(t *testing.T) {
	l := asks(t)
	for i, a := range l {
		other := ask(l[(i+1)%len(l)])
		same := ask(a)
		keptOther := answer{slices.Clone(other.parts), slices.Clone(other.row)}
		kept := answer{slices.Clone(same.parts), slices.Clone(same.row)}
		turned := ask(a)
		parts, row := turned.parts[:cap(turned.parts)], turned.row[:cap(turned.row)]
		for at := range parts {
			parts[at] = -99
		}
		for at := range row {
			row[at] = 99
		}
		if !same.same(kept) || !other.same(keptOther) {
			t.Errorf("P602: answers of %v share memory with others", a)
		}
		if got := ask(a); !got.same(kept) {
			t.Errorf("P602: with an answer turned, of %v: %v; at first %v", a, got, kept)
		}
	}
}

// What CanBe tells of one symbol is whether it has parts; of several, whether all have; of none, whether symbol 0 has.
func TestCanBe(t *testing.T) {
	esis := []int{-1, 0, 1, lastEsi, api.MaxEsi, math.MinInt, math.MaxInt, 1 << 32}
	for _, p := range []params.Params{block(t, 1), block(t, api.MaxK), {}, {K: 1, S: 2, H: 3}, {K: 41, S: 7, H: 2}} {
		for _, j := range []int{-1, 0, 255, 256, math.MinInt, math.MaxInt, 1 << 32} {
			has := func(esi int) bool { return len(Parts(p, j, esi)) > 0 }
			if got := CanBe(p, j); got != has(0) {
				t.Errorf("CanBe(%v, %d): %v; want %v", p, j, got, has(0))
			}
			for _, a := range esis {
				if got := CanBe(p, j, a); got != has(a) {
					t.Errorf("CanBe(%v, %d, %d): %v; want %v", p, j, a, got, has(a))
				}
				for _, b := range esis {
					if got, want := CanBe(p, j, a, b, 7), has(a) && has(b) && has(7); got != want {
						t.Errorf("CanBe(%v, %d, %d, %d, 7): %v; want %v", p, j, a, b, got, want)
					}
				}
			}
		}
	}
}
