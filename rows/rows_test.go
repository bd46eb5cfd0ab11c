package rows

import (
	"math"
	"slices"
	"testing"

	"fountain/field"
)

// places: the n that is asked for, and how many places there must be.
var places = []struct{ n, want int }{
	{math.MinInt, 0}, {-1000, 0}, {-1, 0}, {0, 0}, {1, 1}, {2, 2}, {7, 7}, {999, 999},
	{1000, 1000}, {1001, 1000}, {1 << 32, 1000}, {math.MaxInt, 1000},
}

// at is r's element at i, and 0 where it has none.
func at(r Row, i int) byte {
	if i < 0 || i >= len(r) {
		return 0
	}
	return r[i]
}

// drawn answers n elements, the same ones for the same seed; 0 and 1 are among the long ones.
func drawn(seed, n int) Row {
	r := make(Row, n)
	x := uint32(seed)*2654435761 + 12345
	for i := range r {
		x = x*1664525 + 1013904223
		r[i] = byte(x >> 20)
	}
	return r
}

// mixed is the definition, place by place: element i of it is the sum of c's elements times the rows' elements at i.
func mixed(n int, c Row, l []Row) Row {
	out := make(Row, n)
	for i := range out {
		for j, r := range l {
			out[i] ^= field.Mul(at(c, j), at(r, i))
		}
	}
	return out
}

// ones answers n elements 1.
func ones(n int) Row {
	return Row(slices.Repeat([]byte{1}, n))
}

// lists are rows to be summed and mixed: none, one, many; empty ones, short ones, long ones.
func lists() [][]Row {
	long := []Row{}
	for i := range 40 {
		long = append(long, drawn(i, i*i%97))
	}
	return [][]Row{
		nil,
		{},
		{nil},
		{Row{}, nil, Row{}},
		{Row{7}},
		{Row{0, 0, 0}, Row{0}},
		{Row{1, 2, 3}, Row{4, 5}, Row{6, 7, 8, 9}},
		{Row{5, 5}, Row{5, 5}},
		{nil, drawn(1, 1500), Row{200}, drawn(2, 1000), drawn(3, 1001), drawn(4, 999)},
		long,
	}
}

// check tells where got is not want.
func check(t *testing.T, call string, got, want Row) {
	t.Helper()
	if !slices.Equal(got, want) {
		t.Fatalf("P201: %s: %v; want %v", call, got, want)
	}
}

func TestP201SumOfNone(t *testing.T) {
	check(t, "Sum(2)", Sum(2), Row{0, 0})
	for _, p := range places {
		check(t, "Sum of no rows", Sum(p.n), make(Row, p.want))
		check(t, "Sum of a nil list", Sum(p.n, nil...), make(Row, p.want))
		check(t, "Sum of an empty row", Sum(p.n, Row{}), make(Row, p.want))
		check(t, "Sum of a nil row", Sum(p.n, nil), make(Row, p.want))
	}
}

func TestP201SumByHand(t *testing.T) {
	l := []Row{{1, 2, 3}, {4, 5}, {8, 9, 10, 11}}
	check(t, "Sum of 0 places", Sum(0, l...), Row{})
	check(t, "Sum of fewer places than any row has", Sum(1, l...), Row{13})
	check(t, "Sum of fewer places than the longest row has", Sum(3, l...), Row{13, 14, 9})
	check(t, "Sum of as many places as the longest row has", Sum(4, l...), Row{13, 14, 9, 11})
	check(t, "Sum of more places than any row has", Sum(6, l...), Row{13, 14, 9, 11, 0, 0})
	check(t, "Sum of a row with itself", Sum(3, l[0], l[0]), Row{0, 0, 0})
	check(t, "Sum of a row three times", Sum(3, l[0], l[0], l[0]), l[0])
}

func TestP201SumOfMany(t *testing.T) {
	for _, l := range lists() {
		for _, p := range places {
			check(t, "Sum", Sum(p.n, l...), mixed(p.want, ones(len(l)), l))
		}
	}
}

func TestP201Scale(t *testing.T) {
	every := make(Row, 256)
	for a := range every {
		every[a] = byte(a)
	}
	for c := range 256 {
		got := Scale(byte(c), every)
		if len(got) != len(every) {
			t.Fatalf("P201: Scale(%d) of 256 elements: %d elements", c, len(got))
		}
		for a, product := range got {
			if want := field.Mul(byte(c), byte(a)); product != want {
				t.Fatalf("P201: Scale(%d) of %d: %d; want %d", c, a, product, want)
			}
		}
	}
	check(t, "Scale(2) of {128, 1, 0}", Scale(2, Row{128, 1, 0}), Row{29, 2, 0})
	check(t, "Scale by 0", Scale(0, Row{3, 4}), Row{0, 0})
	check(t, "Scale by 1", Scale(1, Row{3, 4}), Row{3, 4})
	check(t, "Scale of an empty row", Scale(9, Row{}), Row{})
	check(t, "Scale of a nil row", Scale(9, nil), Row{})
}

func TestP201ScaleOfEachLength(t *testing.T) {
	for n := range 40 {
		r := drawn(n, n)
		for _, c := range drawn(n+100, 20) {
			check(t, "Scale", Scale(c, r), mixed(n, Row{c}, []Row{r}))
		}
	}
}

func TestP201ScaleIsNotCut(t *testing.T) {
	r := drawn(5, 3000)
	check(t, "Scale(9) of 3000 elements", Scale(9, r), mixed(3000, Row{9}, []Row{r}))
}

func TestP201Dot(t *testing.T) {
	a, b := Row{2, 3, 0, 7}, Row{128, 1, 9}
	for _, d := range []struct {
		a, b Row
		want byte
	}{
		{nil, nil, 0}, {nil, a, 0}, {Row{}, b, 0},
		{Row{2}, Row{128}, 29}, {Row{2}, b, 29},
		{a, b, 29 ^ 3}, {a, append(slices.Clone(b), 1), 29 ^ 3 ^ 7},
		{Row{0, 0}, b, 0}, {Row{1, 1}, Row{6, 6}, 0},
	} {
		if Dot(d.a, d.b) != d.want || Dot(d.b, d.a) != d.want {
			t.Errorf("P201: Dot of %v and %v: %d, %d; want %d", d.a, d.b, Dot(d.a, d.b), Dot(d.b, d.a), d.want)
		}
	}
}

func TestP201DotOfLong(t *testing.T) {
	for _, n := range []int{0, 1, 64, 999, 1000, 1001, 3000} {
		a, b := drawn(n, n), drawn(n+1, 2500)
		want := byte(0)
		for i := range max(len(a), len(b)) {
			want ^= field.Mul(at(a, i), at(b, i))
		}
		if Dot(a, b) != want || Dot(b, a) != want {
			t.Errorf("P201: Dot of %d and %d elements: %d, %d; want %d", len(a), len(b), Dot(a, b), Dot(b, a), want)
		}
	}
}

func TestP201MixOfNone(t *testing.T) {
	for _, p := range places {
		check(t, "Mix of nothing", Mix(p.n, nil), make(Row, p.want))
		check(t, "Mix of no rows", Mix(p.n, Row{1, 2, 3}), make(Row, p.want))
		check(t, "Mix of rows by nothing", Mix(p.n, nil, Row{4, 5}, Row{6}), make(Row, p.want))
		check(t, "Mix of rows by an empty row", Mix(p.n, Row{}, Row{4, 5}, Row{6}), make(Row, p.want))
		check(t, "Mix of empty rows", Mix(p.n, Row{1, 2}, nil, Row{}), make(Row, p.want))
	}
}

func TestP201MixByHand(t *testing.T) {
	l := []Row{{128, 2, 3}, {4}, {8, 9, 10, 11}}
	check(t, "Mix of 0 places", Mix(0, Row{1, 1, 1}, l...), Row{})
	check(t, "Mix of fewer places than the rows have", Mix(2, Row{2, 1, 1}, l...), Row{29 ^ 4 ^ 8, 4 ^ 9})
	check(t, "Mix of more places than the rows have", Mix(5, Row{2, 1, 1}, l...), Row{29 ^ 4 ^ 8, 4 ^ 9, 6 ^ 10, 11, 0})
	check(t, "Mix by fewer elements than rows", Mix(4, Row{2}, l...), Row{29, 4, 6, 0})
	check(t, "Mix by more elements than rows", Mix(4, Row{0, 0, 1, 7, 7}, l...), Row{8, 9, 10, 11})
	check(t, "Mix by 0 and 1", Mix(4, Row{0, 1, 0}, l...), Row{4, 0, 0, 0})
}

func TestP201MixOfMany(t *testing.T) {
	for _, l := range lists() {
		for _, n := range []int{0, 1, 3, len(l) - 1, len(l), len(l) + 1, len(l) + 5} {
			c := drawn(n+77, max(n, 0))
			for _, p := range places {
				check(t, "Mix", Mix(p.n, c, l...), mixed(p.want, c, l))
			}
		}
	}
}

// call is one call of the package, of the factors c and the rows l; what Dot answers stands as a row of one element.
type call struct {
	name string
	do   func(c Row, l []Row) Row
}

func calls() []call {
	return []call{
		{"Sum", func(c Row, l []Row) Row { return Sum(4, l...) }},
		{"Sum of one", func(c Row, l []Row) Row { return Sum(3, l[0]) }},
		{"Scale", func(c Row, l []Row) Row { return Scale(5, l[0]) }},
		{"Scale by 0", func(c Row, l []Row) Row { return Scale(0, l[0]) }},
		{"Scale by 1", func(c Row, l []Row) Row { return Scale(1, l[0]) }},
		{"Dot", func(c Row, l []Row) Row { return Row{Dot(c, l[0])} }},
		{"Mix", func(c Row, l []Row) Row { return Mix(4, c, l...) }},
		{"Mix of one", func(c Row, l []Row) Row { return Mix(3, Row{1}, l[0]) }},
		{"Mix of one by 0", func(c Row, l []Row) Row { return Mix(3, Row{0}, l[0]) }},
	}
}

// handed is what is handed in: rows that lie within a greater one each, with room ahead of them and behind.
type handed struct {
	whole []Row
	list  []Row
}

func hand() handed {
	var h handed
	for i := range 4 {
		h.whole = append(h.whole, drawn(i+9, 12))
	}
	// The list has room behind it, too: a row that must not be turned.
	h.list = []Row{h.whole[1][2:5], h.whole[2][1:2], h.whole[3][4:10], {77}}[:3]
	return h
}

func (h handed) factors() Row { return h.whole[0][3:5] }

// same tells whether two things that were handed in are one in all, their spare room too.
func (h handed) same(g handed) bool {
	return slices.EqualFunc(h.whole, g.whole, slices.Equal[Row]) &&
		slices.EqualFunc(h.list[:4], g.list[:4], slices.Equal[Row])
}

func TestP202HandedInStays(t *testing.T) {
	for _, c := range calls() {
		h := hand()
		c.do(h.factors(), h.list)
		if !h.same(hand()) {
			t.Errorf("P202: %s turned what was handed in: %v; was %v", c.name, h, hand())
		}
	}
}

func TestP202NewMemory(t *testing.T) {
	for _, c := range calls() {
		h := hand()
		got := c.do(h.factors(), h.list)
		other := c.do(h.factors(), h.list)
		kept := slices.Clone(other)
		whole := got[:cap(got)]
		for i := range whole {
			whole[i] ^= 255
		}
		if !h.same(hand()) {
			t.Errorf("P202: what %s answered shares memory with what was handed in", c.name)
		}
		if !slices.Equal(other, kept) {
			t.Errorf("P202: two answers of %s share memory", c.name)
		}
	}
}

func TestP202NotKept(t *testing.T) {
	for _, c := range calls() {
		h := hand()
		got := c.do(h.factors(), h.list)
		kept := slices.Clone(got)
		for _, r := range h.whole {
			clear(r)
		}
		clear(h.list[:4])
		if !slices.Equal(got, kept) {
			t.Errorf("P202: %s answered %v; when what was handed in turned, it became %v", c.name, kept, got)
		}
		again := hand()
		if next := c.do(again.factors(), again.list); !slices.Equal(next, kept) {
			t.Errorf("P202: %s of the same rows: %v; at first %v", c.name, next, kept)
		}
	}
}

func TestP202ArgumentsAlone(t *testing.T) {
	l := calls()
	first := make([]Row, len(l))
	for i, c := range l {
		h := hand()
		first[i] = c.do(h.factors(), h.list)
	}
	for i := len(l) - 1; i >= 0; i-- {
		h := hand()
		if got := l[i].do(h.factors(), h.list); !slices.Equal(got, first[i]) {
			t.Errorf("P202: %s in another order: %v; at first %v", l[i].name, got, first[i])
		}
	}
}
