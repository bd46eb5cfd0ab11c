package key

import (
	"encoding/hex"
	"math"
	"math/big"
	"slices"
	"testing"

	"fountain/api"
)

// read answers the key that is written as 40 hexadecimal digits.
func read(t *testing.T, digits string) api.Key {
	t.Helper()
	b, err := hex.DecodeString(digits)
	if err != nil || len(b) != 20 {
		t.Fatalf("%q is no key", digits)
	}
	return api.Key(b)
}

// stirred mixes x by chapter 4's own words, in numbers of 64 bits of which 32 are kept.
func stirred(x uint64) uint64 {
	const all = 1 << 32
	x ^= x / (1 << 16)
	x = x * 0x7FEB352D % all
	x ^= x / (1 << 15)
	x = x * 0x846CA68B % all
	return x ^ x/(1<<16)
}

// defined is the key of numbers by the promise's own words; low is reckoned by remainders, without cutting a number's bits.
func defined(n ...int) api.Key {
	const all = 1 << 32
	y := uint64(0)
	for _, number := range n {
		low := uint64((number%all + all) % all)
		y = stirred((y + low) % all)
	}
	var k api.Key
	for i := range 20 {
		k[i] = byte(stirred((stirred(y)+uint64(i)*0x9E3779B9)%all) % 256)
	}
	return k
}

// chance draws numbers, the same ones each time.
type chance uint64

func (c *chance) bits() uint64 {
	*c += 0x9E3779B97F4A7C15
	x := uint64(*c)
	x = (x ^ x>>30) * 0xBF58476D1CE4E5B9
	x = (x ^ x>>27) * 0x94D049BB133111EB
	return x ^ x>>31
}

func (c *chance) below(n int) int {
	return int(c.bits() % uint64(n))
}

func (c *chance) key() api.Key {
	var k api.Key
	for i := range k {
		k[i] = byte(c.bits())
	}
	return k
}

// numbers are some at which halves, signs and wrap-round show.
func numbers() []int {
	l := []int{0, 1, -1, 2, -2, 7, 255, 256, 65535, 65536, 1<<31 - 1, 1 << 31, 1<<31 + 1, -1 << 31, -1<<31 - 1, 1<<32 - 1, 1 << 32, 1<<32 + 1, -1 << 32, -1<<32 + 1, 1<<33 + 7, 1 << 62, math.MaxInt - 1, math.MaxInt, math.MinInt + 1, math.MinInt}
	for bit := range 63 {
		l = append(l, 1<<bit, -1<<bit)
	}
	return l
}

// known are numbers and their keys, worked out beside the program.
var known = []struct {
	n   []int
	key string
}{
	{nil, "00529ebd57f947e2ca0819cc1854f2dabd9613bb"},
	{[]int{1}, "6d666258718a920b8f7e6a582c38766205170626"},
	{[]int{2}, "56e97285f73a04f980fade49f06a2bac1b827f53"},
	{[]int{7}, "4a80ff0b70ce9405ef2be54c16930768e53bc963"},
	{[]int{11}, "cc382f841451db10da771488056b875d583c4c89"},
	{[]int{1, 2}, "c6e3c6257624e1884577941294725a584371d2d0"},
	{[]int{2, 1}, "9752794dc6f9af2ab77011b5d433f0a14b99bd0e"},
	{[]int{2, 3}, "370ceddbb49718e97791361dbc9544ede9337a80"},
	{[]int{1, 2, 3}, "6a14bde8f1b9b472416490bf65a52c6f377665c2"},
	{[]int{3, 2, 1}, "4172964c6328275270070e44e17b87c43f150fc9"},
	{[]int{2, 3, 0, 0}, "f566a7da1b3812900e2f91b2ef9f61bd3a3c24b6"},
	{[]int{2, 3, 0, 1<<24 - 1}, "218e7a44d49821e437b67334c008455bf8477a9f"},
	{[]int{5, 6, 7, 8, 9}, "91ac51cdd5ca21b32b7797a1bdfd9b0f20ef11f1"},
	// 0 ahead stirs nothing, behind it does.
	{[]int{0}, "00529ebd57f947e2ca0819cc1854f2dabd9613bb"},
	{[]int{0, 0, 0}, "00529ebd57f947e2ca0819cc1854f2dabd9613bb"},
	{[]int{0, 1}, "6d666258718a920b8f7e6a582c38766205170626"},
	{[]int{1, 0}, "efb0b9c12ef5730d0c4027df84122a65b5c09ce8"},
	// Numbers below 0, and the greatest and the least.
	{[]int{-1}, "ab08eb071fa2a32efe2ddfd0ef84e945d85ff41f"},
	{[]int{-2}, "f153bdf7727455d434d97ff44385d6093fadc2e3"},
	{[]int{1<<31 - 1}, "e14b4e34d7ebd527d1aa9144b5d9e3395caf157d"},
	{[]int{1 << 31}, "0845954fe3108fefbc42072793cd063964021ca2"},
	{[]int{-1 << 31}, "0845954fe3108fefbc42072793cd063964021ca2"},
	{[]int{math.MaxInt}, "ab08eb071fa2a32efe2ddfd0ef84e945d85ff41f"},
	{[]int{math.MinInt}, "00529ebd57f947e2ca0819cc1854f2dabd9613bb"},
	{[]int{math.MinInt, math.MaxInt}, "ab08eb071fa2a32efe2ddfd0ef84e945d85ff41f"},
	{[]int{math.MaxInt, math.MinInt}, "df0ef02cd18a925e0e8c4c880d83718eb806d3e5"},
	// What is above the low 32 bits.
	{[]int{1<<32 - 1}, "ab08eb071fa2a32efe2ddfd0ef84e945d85ff41f"},
	{[]int{1 << 32}, "00529ebd57f947e2ca0819cc1854f2dabd9613bb"},
	{[]int{1<<32 + 1}, "6d666258718a920b8f7e6a582c38766205170626"},
	{[]int{-1<<32 + 1}, "6d666258718a920b8f7e6a582c38766205170626"},
	{[]int{7, 3}, "c2818583be39de2105bd86d62d3fe94dde0c520e"},
	{[]int{1<<32 + 7, 3}, "c2818583be39de2105bd86d62d3fe94dde0c520e"},
	// Sums that do not fit into 32 bits; the last one is 2^32, for Stir(1) is 0x688990C0.
	{[]int{1, 1<<32 - 1}, "3344fa9348628a2da60e83d6390a40e6db224504"},
	{[]int{1, -1}, "3344fa9348628a2da60e83d6390a40e6db224504"},
	{[]int{1<<32 - 1, 1<<32 - 1}, "fb1333c21b3841dc05687bfe445571a42943a470"},
	{[]int{1, 1<<32 - 0x688990C0}, "00529ebd57f947e2ca0819cc1854f2dabd9613bb"},
	{[]int{1, -0x688990C0}, "00529ebd57f947e2ca0819cc1854f2dabd9613bb"},
}

func TestP1701OfKnownNumbers(t *testing.T) {
	for _, k := range known {
		if got := Of(k.n...); got != read(t, k.key) {
			t.Errorf("P1701: Of(%d): %x; want %s", k.n, got, k.key)
		}
	}
}

func TestP1701OfManyKnownNumbers(t *testing.T) {
	rising, falling, steps := make([]int, 100), make([]int, 100), make([]int, 1000)
	for i := range rising {
		rising[i], falling[i] = i, 99-i
	}
	for i := range steps {
		steps[i] = -i * i * 1000003
	}
	for _, k := range []struct {
		n   []int
		key string
	}{
		{rising, "e7bd8e54f8b8d2f62606a1742f4df18558037b98"},
		{falling, "bd006dc69b721dd26d0102902219f1df9df1e7d8"},
		{steps, "cb7990dc5626e69a16ea3c0f7450248125444897"},
	} {
		if got := Of(k.n...); got != read(t, k.key) {
			t.Errorf("P1701: Of %d numbers, from %d to %d: %x; want %s", len(k.n), k.n[0], k.n[len(k.n)-1], got, k.key)
		}
	}
}

func TestP1701OfByItsDefinition(t *testing.T) {
	all := numbers()
	for _, a := range all {
		if got, want := Of(a), defined(a); got != want {
			t.Fatalf("P1701: Of(%d): %x; want %x", a, got, want)
		}
		for _, b := range all {
			if got, want := Of(a, b), defined(a, b); got != want {
				t.Fatalf("P1701: Of(%d, %d): %x; want %x", a, b, got, want)
			}
		}
	}
	c := chance(1701)
	for length := range 200 {
		l := make([]int, length)
		for i := range l {
			l[i] = int(c.bits())
			if c.below(3) == 0 {
				l[i] = all[c.below(len(all))]
			}
		}
		if got, want := Of(l...), defined(l...); got != want {
			t.Fatalf("P1701: Of(%d): %x; want %x", l, got, want)
		}
	}
}

func TestP1701OfTheLowBitsAlone(t *testing.T) {
	l := []int{3, -5, 1 << 31, 0, 99}
	want := Of(l...)
	for i := range l {
		for bit := range 64 {
			other := slices.Clone(l)
			other[i] ^= 1 << bit
			if same := Of(other...) == want; same != (bit >= 32) {
				t.Errorf("P1701: Of(%d) and Of(%d): the same: %v", l, other, same)
			}
		}
	}
}

func TestP1701OfNoNumberAndOfZeros(t *testing.T) {
	none := Of()
	for n := range 9 {
		if got := Of(make([]int, n)...); got != none {
			t.Errorf("P1701: Of %d numbers 0: %x; want that of none, %x", n, got, none)
		}
		if got := Of(append(make([]int, n), 5)...); got != Of(5) {
			t.Errorf("P1701: Of %d numbers 0 and 5: %x; want that of 5, %x", n, got, Of(5))
		}
	}
	if Of(nil...) != none || Of([]int{}...) != none {
		t.Error("P1701: Of nil and of an empty list are not Of no number")
	}
}

func TestP1701OfOtherNumbersIsAnotherKey(t *testing.T) {
	seen := map[api.Key][]int{}
	meet := func(l ...int) {
		k := Of(l...)
		if other, met := seen[k]; met {
			t.Errorf("P1701: Of(%d) and Of(%d) are one", l, other)
		}
		seen[k] = l
	}
	// One number more, that is 0, and the same numbers in another order: each key is another one.
	for a := 1; a <= 30; a++ {
		meet(a)
		meet(a, 0)
		meet(a, 0, 0)
		for b := 1; b <= 30; b++ {
			meet(a, b)
		}
	}
	for _, l := range [][]int{{41, 42, 43}, {41, 43, 42}, {42, 41, 43}, {42, 43, 41}, {43, 41, 42}, {43, 42, 41}, {41, 42, 43, 0}, {41, 0, 42, 43}} {
		meet(l...)
	}
}

// number is a key as one number, its byte 0 the highest.
func number(k api.Key) *big.Int {
	return new(big.Int).SetBytes(k[:])
}

// judge holds all that is told of a and b against the numbers that they are.
func judge(t *testing.T, a, b api.Key) {
	t.Helper()
	m, n := number(a), number(b)
	apart := new(big.Int).Xor(m, n)
	if got := Distance(a, b); number(got).Cmp(apart) != 0 {
		t.Errorf("P1701: Distance(%x, %x): %x; want %040x", a, b, got, apart)
	}
	if got, want := Less(a, b), m.Cmp(n) < 0; got != want {
		t.Errorf("P1701: Less(%x, %x): %v; want %v", a, b, got, want)
	}
	if got, want := Prefix(a, b), 160-apart.BitLen(); got != want {
		t.Errorf("P1701: Prefix(%x, %x): %d; want %d", a, b, got, want)
	}
}

// judgeBoth judges a and b, and b and a.
func judgeBoth(t *testing.T, a, b api.Key) {
	t.Helper()
	judge(t, a, b)
	judge(t, b, a)
}

// pairs are two keys and what is to be told of them, by hand; the first one is the lesser, if they are unlike.
var pairs = []struct {
	name, a, b, distance string
	prefix               int
}{
	{"the same", "0123456789abcdef0123456789abcdef01234567", "0123456789abcdef0123456789abcdef01234567", "0000000000000000000000000000000000000000", 160},
	{"both nothing", "0000000000000000000000000000000000000000", "0000000000000000000000000000000000000000", "0000000000000000000000000000000000000000", 160},
	{"both all", "ffffffffffffffffffffffffffffffffffffffff", "ffffffffffffffffffffffffffffffffffffffff", "0000000000000000000000000000000000000000", 160},
	{"nothing and all", "0000000000000000000000000000000000000000", "ffffffffffffffffffffffffffffffffffffffff", "ffffffffffffffffffffffffffffffffffffffff", 0},
	{"the highest bit", "0123456789abcdef0123456789abcdef01234567", "8123456789abcdef0123456789abcdef01234567", "8000000000000000000000000000000000000000", 0},
	{"the lowest bit", "0123456789abcdef0123456789abcdef01234566", "0123456789abcdef0123456789abcdef01234567", "0000000000000000000000000000000000000001", 159},
	{"byte 0's lowest bit", "0023456789abcdef0123456789abcdef01234567", "0123456789abcdef0123456789abcdef01234567", "0100000000000000000000000000000000000000", 7},
	{"byte 1's highest bit", "0123456789abcdef0123456789abcdef01234567", "01a3456789abcdef0123456789abcdef01234567", "0080000000000000000000000000000000000000", 8},
	{"the last byte's highest bit", "0123456789abcdef0123456789abcdef01234567", "0123456789abcdef0123456789abcdef012345e7", "0000000000000000000000000000000000000080", 152},
	{"a bit amid", "0123456789abcdef0123456789abcdef01234567", "0123456789abcdef0133456789abcdef01234567", "0000000000000000001000000000000000000000", 75},
	{"each byte's highest bit", "0000000000000000000000000000000000000000", "8080808080808080808080808080808080808080", "8080808080808080808080808080808080808080", 0},
	{"each byte's bit 3", "f0f0f0f0f0f0f0f0f0f0f0f0f0f0f0f0f0f0f0f0", "f8f8f8f8f8f8f8f8f8f8f8f8f8f8f8f8f8f8f8f8", "0808080808080808080808080808080808080808", 4},
	{"each byte's lowest bit", "fefefefefefefefefefefefefefefefefefefefe", "ffffffffffffffffffffffffffffffffffffffff", "0101010101010101010101010101010101010101", 7},
	{"a lesser byte ahead of a greater one", "01ff000000000000000000000000000000000000", "0200000000000000000000000000000000000000", "03ff000000000000000000000000000000000000", 6},
	{"a lesser byte amid, all behind greater", "aaaaaaaaaaaaaaaaaaaa7fffffffffffffffffff", "aaaaaaaaaaaaaaaaaaaa80000000000000000000", "00000000000000000000ffffffffffffffffffff", 80},
	{"the last but one lesser, the last greater", "00000000000000000000000000000000000010ff", "0000000000000000000000000000000000001100", "00000000000000000000000000000000000001ff", 159 - 8},
}

func TestP1701PairsByHand(t *testing.T) {
	for _, p := range pairs {
		a, b := read(t, p.a), read(t, p.b)
		if d := read(t, p.distance); Distance(a, b) != d || Distance(b, a) != d {
			t.Errorf("P1701: %s: Distance: %x and %x; want %s", p.name, Distance(a, b), Distance(b, a), p.distance)
		}
		if Prefix(a, b) != p.prefix || Prefix(b, a) != p.prefix {
			t.Errorf("P1701: %s: Prefix: %d and %d; want %d", p.name, Prefix(a, b), Prefix(b, a), p.prefix)
		}
		if Less(a, b) != (p.a != p.b) || Less(b, a) {
			t.Errorf("P1701: %s: Less: %v and %v; want %v and false", p.name, Less(a, b), Less(b, a), p.a != p.b)
		}
		judgeBoth(t, a, b)
	}
}

func TestP1701KeysThatAreTheSame(t *testing.T) {
	c := chance(160)
	keys := []api.Key{{}, Of(), Of(1), Of(-1)}
	for range 100 {
		keys = append(keys, c.key())
	}
	for _, k := range keys {
		if Prefix(k, k) != 160 || Distance(k, k) != (api.Key{}) || Less(k, k) {
			t.Errorf("P1701: of %x and itself: Prefix %d, Distance %x, Less %v", k, Prefix(k, k), Distance(k, k), Less(k, k))
		}
	}
}

func TestP1701KeysUnlikeInOneBit(t *testing.T) {
	c := chance(8)
	for _, k := range []api.Key{{}, c.key(), c.key(), c.key()} {
		for place := range 160 {
			other, apart := k, api.Key{}
			bit := byte(0x80) >> (place % 8)
			other[place/8] ^= bit
			apart[place/8] = bit
			if got := Prefix(k, other); got != place {
				t.Errorf("P1701: Prefix(%x, %x): %d; want %d", k, other, got, place)
			}
			if got := Distance(k, other); got != apart {
				t.Errorf("P1701: Distance(%x, %x): %x; want %x", k, other, got, apart)
			}
			if got, want := Less(k, other), k[place/8]&bit == 0; got != want || Less(other, k) == want {
				t.Errorf("P1701: Less(%x, %x): %v, and turned round %v; want %v", k, other, got, Less(other, k), want)
			}
		}
	}
}

func TestP1701KeysUnlikeInOneByte(t *testing.T) {
	c := chance(20)
	for place := range 20 {
		k := c.key()
		for before := range 256 {
			k[place] = byte(before)
			for _, step := range []byte{1, 2, 3, 0x40, 0x7F, 0x80, 0x81, 0xFF, byte(c.bits())} {
				other := k
				other[place] += step
				judgeBoth(t, k, other)
			}
		}
	}
}

func TestP1701KeysNearAndFar(t *testing.T) {
	c := chance(170)
	for near := range 161 {
		for range 20 {
			a, b := c.key(), c.key()
			// The first near bits are made the same; what is behind stays as it was drawn.
			for place := range near {
				bit := byte(0x80) >> (place % 8)
				b[place/8] = b[place/8]&^bit | a[place/8]&bit
			}
			judgeBoth(t, a, b)
			if got := Prefix(a, b); got < near {
				t.Errorf("P1701: Prefix(%x, %x): %d; want %d at least", a, b, got, near)
			}
		}
	}
	for n := range 60 {
		for m := range 60 {
			judge(t, Of(n), Of(m, 1))
		}
	}
}

func TestP1701TheFirstUnlikeByteTells(t *testing.T) {
	for place := range 20 {
		for _, first := range [][2]byte{{0, 1}, {0, 255}, {127, 128}, {254, 255}, {1, 128}} {
			lesser, greater := api.Key{}, api.Key{}
			for i := range 20 {
				lesser[i], greater[i] = 0xFF, 0x00
				if i < place {
					lesser[i], greater[i] = 0x5A, 0x5A
				}
			}
			lesser[place], greater[place] = first[0], first[1]
			if !Less(lesser, greater) || Less(greater, lesser) {
				t.Errorf("P1701: Less(%x, %x): %v, and turned round %v", lesser, greater, Less(lesser, greater), Less(greater, lesser))
			}
			judgeBoth(t, lesser, greater)
		}
	}
}

func TestP1701WhoHasMoreInCommonIsNearer(t *testing.T) {
	c := chance(4)
	for range 2000 {
		k, a, b := c.key(), c.key(), c.key()
		copy(a[:c.below(20)], k[:])
		copy(b[:c.below(20)], k[:])
		if Prefix(k, a) > Prefix(k, b) && !Less(Distance(k, a), Distance(k, b)) {
			t.Errorf("P1701: %x has more of %x than %x has, and is not nearer", a, k, b)
		}
		if between := Distance(Distance(a, k), Distance(k, b)); between != Distance(a, b) {
			t.Errorf("P1701: Distance of %x and %x by %x is %x", a, b, k, between)
		}
	}
}

func TestP1702HandedInStaysAsItIs(t *testing.T) {
	for length := range 12 {
		room := make([]int, length+5)
		for i := range room {
			room[i] = 1000003*i - 1<<33
		}
		before := slices.Clone(room)
		got := Of(room[:length]...)
		if !slices.Equal(room, before) {
			t.Errorf("P1702: behind Of %d numbers they, or their spare room, are %d; want %d", length, room, before)
		}
		if want := Of(room[:length:length]...); got != want {
			t.Errorf("P1702: with other spare room the key of %d numbers is %x; want %x", length, got, want)
		}
	}
	a, b := Of(1), Of(2)
	Distance(a, b)
	Less(a, b)
	Prefix(a, b)
	if a != Of(1) || b != Of(2) {
		t.Errorf("P1702: two keys that were handed in are %x and %x", a, b)
	}
}

func TestP1702HandedInIsNotKept(t *testing.T) {
	l := []int{4, 5, 6, 7}
	got := Of(l[:3]...)
	want := got
	for i := range l {
		l[i] = -1
	}
	if got != want || Of(4, 5, 6) != want {
		t.Errorf("P1702: with the numbers turned, the key is %x, and asked again %x; want %x", got, Of(4, 5, 6), want)
	}
	if again := Of(l[:3]...); again != Of(-1, -1, -1) || again == want {
		t.Errorf("P1702: of the numbers as they are now the key is %x", again)
	}
}

func TestP1702AnswersAreNewMemory(t *testing.T) {
	first, apart := Of(1, 2), Distance(Of(1), Of(2))
	wantFirst, wantApart := first, apart
	for i := range first {
		first[i]++
		apart[i]++
	}
	if Of(1, 2) != wantFirst || Distance(Of(1), Of(2)) != wantApart {
		t.Error("P1702: an answer that was turned is answered again")
	}
}

// told is all that is answered of two numbers.
type told struct {
	key, distance api.Key
	less          bool
	prefix        int
}

// answers asks all calls of n pairs of numbers, from the last to the first if backward, and lays the answers by arguments.
func answers(n int, backward bool) []told {
	l := make([]told, n)
	for k := range n {
		if backward {
			k = n - 1 - k
		}
		a, b := Of(k), Of(k*k, -k)
		l[k] = told{Of(k, k+1, k<<32), Distance(a, b), Less(a, b), Prefix(a, b)}
	}
	return l
}

func TestP1702AnswersHangOnArgumentsAlone(t *testing.T) {
	first := answers(400, false)
	if !slices.Equal(answers(400, false), first) {
		t.Error("P1702: asked again, other answers")
	}
	if !slices.Equal(answers(400, true), first) {
		t.Error("P1702: asked in another order, other answers")
	}
	for _, n := range []int{1, 7, 399} {
		if !slices.Equal(answers(n, true), first[:n]) {
			t.Errorf("P1702: asked of %d alone, other answers", n)
		}
	}
}
