package params

import (
	"math"
	"slices"
	"testing"

	"fountain/api"
)

// made is what is made of Params, as a block is: it lends their fields and methods.
type made struct {
	Params
	name string
}

// lows has S of each k from 1 to MaxK, written out.
func lows() []int {
	return []int{
		2, 2, 2, 2, 2, 2, 2,
		3, 3, 3, 3, 3, 3, 3, 3,
		4, 4, 4, 4, 4, 4, 4, 4,
		5, 5, 5, 5, 5, 5, 5, 5,
		6, 6, 6, 6, 6, 6, 6, 6,
		7,
	}
}

func TestP501OfEachK(t *testing.T) {
	if api.MaxK != len(lows()) {
		t.Fatalf("P501: MaxK: %d; want %d", api.MaxK, len(lows()))
	}
	for i, s := range lows() {
		k := i + 1
		p, err := Of(k)
		if want := (Params{K: k, S: s, H: 2}); p != want || err != api.OK {
			t.Errorf("P501: Of(%d): %v, %d; want %v, 0", k, p, err, want)
		}
		if p.W() != k+s || p.L() != k+s+2 {
			t.Errorf("P501: W and L of Of(%d): %d and %d; want %d and %d", k, p.W(), p.L(), k+s, k+s+2)
		}
	}
}

func TestP501OfKnownNumbers(t *testing.T) {
	known := []struct{ k, s, w, l int }{
		{1, 2, 3, 5},
		{2, 2, 4, 6},
		{7, 2, 9, 11},
		{8, 3, 11, 13},
		{9, 3, 12, 14},
		{15, 3, 18, 20},
		{16, 4, 20, 22},
		{23, 4, 27, 29},
		{24, 5, 29, 31},
		{31, 5, 36, 38},
		{32, 6, 38, 40},
		{39, 6, 45, 47},
		{40, 7, 47, 49},
	}
	for _, n := range known {
		p, err := Of(n.k)
		if err != api.OK || p.K != n.k || p.S != n.s || p.H != 2 || p.W() != n.w || p.L() != n.l {
			t.Errorf("P501: Of(%d): %v, %d, with W %d and L %d; want %v", n.k, p, err, p.W(), p.L(), n)
		}
	}
}

func TestP501OfNoBlock(t *testing.T) {
	ks := []int{
		0, -1, -2, -7, -8, -9, -40, -1000, -1 << 31, -1<<32 + 1, math.MinInt + 1, math.MinInt,
		api.MaxK + 1, api.MaxK + 2, 48, 255, 256 + 1, 1000, 1 << 31, 1<<32 + 1, math.MaxInt - 1, math.MaxInt,
	}
	for _, k := range ks {
		if p, err := Of(k); err != api.ErrArg || p != (Params{}) {
			t.Errorf("P501: Of(%d): %v, %d; want no Params and %d", k, p, err, api.ErrArg)
		}
	}
}

func TestP501SumsOfAnyParams(t *testing.T) {
	known := []struct {
		p    Params
		w, l int
	}{
		{Params{}, 0, 0},
		{Params{K: 1}, 1, 1},
		{Params{S: 1}, 1, 1},
		{Params{H: 1}, 0, 1},
		{Params{K: 1, S: 10, H: 100}, 11, 111},
		{Params{K: 10, S: 2, H: 2}, 12, 14},
		{Params{K: 41, S: 7, H: 2}, 48, 50},
		{Params{K: -5, S: 100, H: 7}, 95, 102},
		{Params{K: 5, S: -100, H: 7}, -95, -88},
		{Params{K: 5, S: 100, H: -700}, 105, -595},
		{Params{K: -1, S: -1, H: -1}, -2, -3},
		{Params{K: 1000, S: 2000, H: 3000}, 3000, 6000},
		{Params{K: math.MaxInt, S: math.MinInt, H: 1}, -1, 0},
		{Params{K: math.MinInt, S: 0, H: math.MaxInt}, math.MinInt, -1},
	}
	for _, n := range known {
		if n.p.W() != n.w || n.p.L() != n.l {
			t.Errorf("P501: W and L of %v: %d and %d; want %d and %d", n.p, n.p.W(), n.p.L(), n.w, n.l)
		}
	}
}

func TestP501ParamsAreEmbedded(t *testing.T) {
	p, _ := Of(8)
	m := made{p, "a block"}
	if m.K != 8 || m.S != 3 || m.H != 2 || m.W() != 11 || m.L() != 13 {
		t.Errorf("P501: %s lends %d, %d, %d, W %d and L %d; want 8, 3, 2, 11 and 13", m.name, m.K, m.S, m.H, m.W(), m.L())
	}
	l := (&m).L
	m.Params = Params{}
	if l() != 13 || m.L() != 0 || m.W() != 0 {
		t.Errorf("P501: L of what was made, then of none: %d and %d; want 13 and 0", l(), m.L())
	}
}

// answers asks all calls for n numbers each, from the last to the first if backward, and lays the answers by arguments.
func answers(n int, backward bool) []int {
	const each = 8
	l := make([]int, each*n)
	for i := range n {
		if backward {
			i = n - 1 - i
		}
		p, err := Of(i - 5)
		q := Params{K: i * 7, S: 3 - i, H: -i}
		copy(l[each*i:], []int{p.K, p.S, p.H, int(err), p.W(), p.L(), q.W(), q.L()})
	}
	return l
}

func TestP502AnswersHangOnArgumentsAlone(t *testing.T) {
	const most = 60
	first := answers(most, false)
	if !slices.Equal(answers(most, false), first) {
		t.Error("P502: asked again, other answers")
	}
	if !slices.Equal(answers(most, true), first) {
		t.Error("P502: asked in another order, other answers")
	}
	for _, n := range []int{1, 7, most - 1} {
		if got := answers(n, true); !slices.Equal(got, first[:len(got)]) {
			t.Errorf("P502: asked of %d alone, other answers", n)
		}
	}
}

func TestP502ParamsStayAsTheyAre(t *testing.T) {
	p, _ := Of(16)
	kept := p
	if p.W() != 20 || p.L() != 22 || p.W() != 20 || p != kept {
		t.Errorf("P502: behind W and L: %v; want %v", p, kept)
	}
	p.K, p.S, p.H = 0, 0, 0
	if q, err := Of(16); q != kept || err != api.OK {
		t.Errorf("P502: with an answer changed, Of(16): %v, %d; want %v, 0", q, err, kept)
	}
}

func TestIsBlock(t *testing.T) {
	for k := -100; k <= 100; k++ {
		for s := -10; s <= 20; s++ {
			for h := -3; h <= 5; h++ {
				p := Params{K: k, S: s, H: h}
				want := k >= 1 && k <= 40 && s == 2+k/8 && h == 2
				if got := p.IsBlock(); got != want {
					t.Fatalf("IsBlock of %v: %v; want %v", p, got, want)
				}
			}
		}
	}
	for _, far := range []int{math.MinInt, -1 << 32, 1 << 32, math.MaxInt} {
		for _, p := range []Params{{K: far + 1, S: 2, H: 2}, {K: 1, S: far + 2, H: 2}, {K: 1, S: 2, H: far + 2}, {K: far, S: far, H: far}} {
			if p.IsBlock() {
				t.Errorf("IsBlock of %v: true", p)
			}
		}
	}
}
