package random

import (
	"math"
	"slices"
	"testing"
)

const greatest = math.MaxUint32

// stirred mixes x by the promise's own words, in numbers of 64 bits of which 32 are kept.
func stirred(x uint64) uint64 {
	const all = 1 << 32
	x ^= x / (1 << 16)
	x = x * 0x7FEB352D % all
	x ^= x / (1 << 15)
	x = x * 0x846CA68B % all
	return x ^ x/(1<<16)
}

// drawn draws by the promise's own words, from numbers below 2^32.
func drawn(y, i uint64) uint64 {
	return stirred((stirred(y) + i*0x9E3779B9) % (1 << 32))
}

// edges are numbers at which halves, signs and wrap-round show.
func edges() []uint32 {
	l := []uint32{0, 1, 2, 3, 0x7FFF, 0x8000, 0xFFFF, 0x10000, 0x10001, 0xFFFF0000, 0x12340000, 0x1234, 0x7FFFFFFF, 0x80000000, 0x80000001, greatest - 1, greatest}
	for bit := range 32 {
		l = append(l, 1<<bit)
	}
	return l
}

func TestP401StirOfKnownNumbers(t *testing.T) {
	// Worked out by hand beside the program.
	known := [][2]uint32{
		{0x00000000, 0x00000000},
		{0x00000001, 0x688990C0},
		{0x00000002, 0xD1132181},
		{0x00001234, 0xD8614160},
		{0x00007FFF, 0x0FEA74DD},
		{0x00008000, 0xF2D67FB9},
		{0x0000FFFF, 0x33CAD8BA},
		{0x00010000, 0xDCAFAE10},
		{0x12340000, 0x4332752B},
		{0x12345678, 0xF5E71C96},
		{0x7FFFFFFF, 0x8D29FFB8},
		{0x80000000, 0xCC4B4124},
		{0xFFFF0000, 0x36EB6755},
		{0xFFFFFFFF, 0x6768824A},
	}
	for _, k := range known {
		if got := Stir(k[0]); got != k[1] {
			t.Errorf("P401: Stir(%#x): %#x; want %#x", k[0], got, k[1])
		}
	}
}

func TestP401StirByItsDefinition(t *testing.T) {
	l := edges()
	for n := range uint32(20000) {
		l = append(l, n, n<<16, n*2654435761)
	}
	for _, x := range l {
		if got, want := Stir(x), uint32(stirred(uint64(x))); got != want {
			t.Fatalf("P401: Stir(%#x): %#x; want %#x", x, got, want)
		}
	}
}

func TestP401RandOfKnownNumbers(t *testing.T) {
	known := []struct {
		y, i uint32
		m    int
		want int
	}{
		{0, 0, 10, 0},
		{0, 1, 1 << 40, 33350994},
		{1, 0, 1 << 40, 1492470133},
		{1, 2, 3, 2},
		{7, 0, 100, 68},
		{7, 1, 100, 77},
		{7, 2, 100, 26},
		{42, 1000000, 1000, 736},
		{3, 0x10000, 65536, 28224},
		{0x80000000, 7, 1 << 31, 380513347},
		{123, 2, 1 << 33, 864838166},
		{123, 3, 1 << 33, 3344776558},
		{123, greatest, 1 << 33, 1352037574},
		{greatest, 0x80000000, 1 << 32, 623444382},
		{greatest, greatest, math.MaxInt, 282598646},
	}
	for _, k := range known {
		if got := Rand(k.y, k.i, k.m); got != k.want {
			t.Errorf("P401: Rand(%#x, %#x, %d): %d; want %d", k.y, k.i, k.m, got, k.want)
		}
	}
}

func TestP401RandByItsDefinition(t *testing.T) {
	ms := []int{1, 2, 3, 7, 10, 40, 49, 255, 256, 257, 1000, 65535, 65536, 1 << 20, 1<<24 - 40, 1<<31 - 1, 1 << 31, 1<<31 + 1, 1<<32 - 1, 1 << 32, 1<<32 + 1, 1 << 33, 1 << 62, math.MaxInt}
	for _, y := range edges() {
		for _, i := range edges() {
			for _, m := range ms {
				want := int(drawn(uint64(y), uint64(i)) % uint64(m))
				if got := Rand(y, i, m); got != want {
					t.Fatalf("P401: Rand(%#x, %#x, %d): %d; want %d", y, i, m, got, want)
				}
			}
		}
	}
}

func TestP401RandOfMBelowOne(t *testing.T) {
	for _, m := range []int{0, -1, -2, -7, -1 << 31, -1 << 32, math.MinInt + 1, math.MinInt} {
		for _, y := range edges() {
			if got := Rand(y, y+1, m); got != 0 {
				t.Fatalf("P401: Rand(%#x, %#x, %d): %d; want 0", y, y+1, m, got)
			}
		}
	}
}

func TestP401RandOfMOne(t *testing.T) {
	for _, y := range edges() {
		if got := Rand(y, 3, 1); got != 0 {
			t.Errorf("P401: Rand(%#x, 3, 1): %d; want 0", y, got)
		}
	}
}

func TestP401RandOfTwoMIsOfOneNumber(t *testing.T) {
	for i := range uint32(1000) {
		whole := Rand(77, i, 1<<40)
		if whole < 0 || whole > greatest {
			t.Fatalf("P401: Rand(77, %d, 2^40): %d, which has more than 32 bits", i, whole)
		}
		for _, m := range []int{2, 9, 49, 1 << 16, 1<<32 - 1} {
			if got := Rand(77, i, m); got != whole%m {
				t.Fatalf("P401: Rand(77, %d, %d): %d; want %d", i, m, got, whole%m)
			}
		}
	}
}

func TestP401DegreeAtItsBounds(t *testing.T) {
	bounds := []int{5243, 529531, 704294, 791675, 844104, 879057, 904023}
	for place, b := range bounds {
		for _, k := range [][2]int{{b - 1, place + 1}, {b, place + 2}, {b + 1, place + 2}} {
			if got := Degree(k[0]); got != k[1] {
				t.Errorf("P401: Degree(%d): %d; want %d", k[0], got, k[1])
			}
		}
	}
}

func TestP401DegreeOfAll(t *testing.T) {
	counts := make([]int, 10)
	last := 1
	for v := range 1 << 20 {
		d := Degree(v)
		if d < last || d > 8 {
			t.Fatalf("P401: Degree(%d): %d behind %d", v, d, last)
		}
		last = d
		counts[d]++
	}
	want := []int{0, 5243, 524288, 174763, 87381, 52429, 34953, 24966, 144553, 0}
	if !slices.Equal(counts, want) {
		t.Errorf("P401: so many numbers of each degree: %v; want %v", counts, want)
	}
}

func TestP401DegreeIsCut(t *testing.T) {
	for _, v := range []int{0, -1, -5243, -1 << 20, -1 << 32, math.MinInt + 1, math.MinInt} {
		if got := Degree(v); got != 1 {
			t.Errorf("P401: Degree(%d): %d; want 1", v, got)
		}
	}
	for _, v := range []int{1<<20 - 1, 1 << 20, 1<<20 + 1, 1<<20 + 5242, 1<<21 + 5243, 1 << 32, 1<<32 + 1, 1 << 40, math.MaxInt} {
		if got := Degree(v); got != 8 {
			t.Errorf("P401: Degree(%d): %d; want 8", v, got)
		}
	}
}

// answers asks all calls for n arguments each, from the last to the first if backward, and lays the answers by arguments.
func answers(n int, backward bool) []int {
	l := make([]int, 3*n)
	for k := range n {
		if backward {
			k = n - 1 - k
		}
		x := uint32(k) * 2654435761
		l[3*k] = int(Stir(x))
		l[3*k+1] = Rand(x, uint32(k), 1+k)
		l[3*k+2] = Degree(k * 3001)
	}
	return l
}

func TestP402AnswersHangOnArgumentsAlone(t *testing.T) {
	first := answers(400, false)
	if !slices.Equal(answers(400, false), first) {
		t.Error("P402: asked again, other answers")
	}
	if !slices.Equal(answers(400, true), first) {
		t.Error("P402: asked in another order, other answers")
	}
	for _, n := range []int{1, 7, 399} {
		if !slices.Equal(answers(n, true), first[:3*n]) {
			t.Errorf("P402: asked of %d alone, other answers", n)
		}
	}
}
