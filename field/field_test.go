package field

import (
	"math"
	"slices"
	"testing"
)

// product multiplies two polynomials and divides by the field's: the definition, done by hand, to hold the package against.
func product(a, b byte) byte {
	const whole = 1<<8 | 1<<4 | 1<<3 | 1<<2 | 1
	p := 0
	for i := range 8 {
		if b>>i&1 == 1 {
			p ^= int(a) << i
		}
	}
	for i := 14; i >= 8; i-- {
		if p>>i&1 == 1 {
			p ^= whole << (i - 8)
		}
	}
	return byte(p)
}

// powers answers the powers of a from 0 to below n, one product after the other.
func powers(a byte, n int) []byte {
	l := make([]byte, n)
	p := byte(1)
	for i := range l {
		l[i] = p
		p = product(p, a)
	}
	return l
}

// half is the element whose double is 1, looked for one by one.
func half(t *testing.T) byte {
	t.Helper()
	for a := range 256 {
		if product(byte(a), 2) == 1 {
			return byte(a)
		}
	}
	t.Fatal("2 has no inverse")
	return 0
}

func TestP101AddOfNoneAndOne(t *testing.T) {
	if Add() != 0 || Add(nil...) != 0 || Add([]byte{}...) != 0 {
		t.Errorf("P101: the sum of none: %d, %d, %d; want 0", Add(), Add(nil...), Add([]byte{}...))
	}
	for a := range 256 {
		if got := Add(byte(a)); got != byte(a) {
			t.Errorf("P101: Add(%d): %d; want %d", a, got, a)
		}
	}
}

func TestP101AddOfTwo(t *testing.T) {
	for a := range 256 {
		for b := range 256 {
			if got := Add(byte(a), byte(b)); int(got) != a^b {
				t.Fatalf("P101: Add(%d, %d): %d; want %d", a, b, got, a^b)
			}
		}
	}
}

func TestP101AddOfMany(t *testing.T) {
	var l []byte
	want := 0
	for i := range 1000 {
		if got := Add(l...); int(got) != want {
			t.Fatalf("P101: Add of %d elements: %d; want %d", i, got, want)
		}
		l = append(l, byte(i*i+3*i))
		want ^= (i*i + 3*i) & 255
	}
}

func TestP101MulOfNoneAndOne(t *testing.T) {
	if Mul() != 1 || Mul(nil...) != 1 || Mul([]byte{}...) != 1 {
		t.Errorf("P101: the product of none: %d, %d, %d; want 1", Mul(), Mul(nil...), Mul([]byte{}...))
	}
	for a := range 256 {
		if got := Mul(byte(a)); got != byte(a) {
			t.Errorf("P101: Mul(%d): %d; want %d", a, got, a)
		}
	}
}

func TestP101MulOfTwo(t *testing.T) {
	if got := Mul(2, 128); got != 29 {
		t.Errorf("P101: Mul(2, 128): %d; want 29", got)
	}
	for a := range 256 {
		for b := range 256 {
			want := product(byte(a), byte(b))
			if got := Mul(byte(a), byte(b)); got != want {
				t.Fatalf("P101: Mul(%d, %d): %d; want %d", a, b, got, want)
			}
		}
	}
}

func TestP101MulOfMany(t *testing.T) {
	var l []byte
	want := byte(1)
	for i := range 1000 {
		if got := Mul(l...); got != want {
			t.Fatalf("P101: Mul of %d elements: %d; want %d", i, got, want)
		}
		a := byte(i*7%255 + 1) // never 0, which would hide all that follows
		l = append(l, a)
		want = product(want, a)
	}
	if got := Mul(append(l, 0, 5)...); got != 0 {
		t.Errorf("P101: a product with 0 in it: %d; want 0", got)
	}
}

func TestP101Inv(t *testing.T) {
	if got := Inv(0); got != 0 {
		t.Errorf("P101: Inv(0): %d; want 0", got)
	}
	for a := 1; a < 256; a++ {
		if got := product(byte(a), Inv(byte(a))); got != 1 {
			t.Errorf("P101: %d times Inv(%d), which is %d: %d; want 1", a, a, Inv(byte(a)), got)
		}
	}
}

func TestP101Power(t *testing.T) {
	up, down := powers(2, 2000), powers(half(t), 2000)
	if Power(0) != 1 {
		t.Errorf("P101: Power(0): %d; want 1", Power(0))
	}
	for n := range up {
		if got := Power(n); got != up[n] {
			t.Fatalf("P101: Power(%d): %d; want %d", n, got, up[n])
		}
		if got := Power(-n); got != down[n] {
			t.Fatalf("P101: Power(%d): %d; want %d", -n, got, down[n])
		}
	}
}

// bySquares answers a to the n for any n of 64 bits: the slow walk would not end.
func bySquares(a byte, n uint64) byte {
	p := byte(1)
	for i := 63; i >= 0; i-- {
		p = product(p, p)
		if n>>i&1 == 1 {
			p = product(p, a)
		}
	}
	return p
}

func TestP101PowerFarOut(t *testing.T) {
	down := half(t)
	for i := range 300 {
		if got, want := Power(math.MaxInt-i), bySquares(2, uint64(math.MaxInt-i)); got != want {
			t.Errorf("P101: Power(MaxInt - %d): %d; want %d", i, got, want)
		}
		// Of the least int, 2^63 is what stands against it; as an uint64 it can be written.
		if got, want := Power(math.MinInt+i), bySquares(down, uint64(math.MaxInt)+1-uint64(i)); got != want {
			t.Errorf("P101: Power(MinInt + %d): %d; want %d", i, got, want)
		}
	}
}

func TestP102HandedInStays(t *testing.T) {
	for name, call := range map[string]func(...byte) byte{"Add": Add, "Mul": Mul} {
		whole := []byte{9, 3, 0, 7, 255, 11, 13}
		before := slices.Clone(whole)
		call(whole[1:5]...) // with room ahead of it and behind
		if !slices.Equal(whole, before) {
			t.Errorf("P102: %s turned what was handed in: %v; was %v", name, whole, before)
		}
	}
}

func TestP102NotKept(t *testing.T) {
	l := []byte{3, 5, 7}
	Add(l...)
	Mul(l...)
	clear(l)
	if got := Add(3, 5, 7); got != 1 {
		t.Errorf("P102: Add(3, 5, 7) behind a list that turned: %d; want 1", got)
	}
	if got, want := Mul(3, 5, 7), product(product(3, 5), 7); got != want {
		t.Errorf("P102: Mul(3, 5, 7) behind a list that turned: %d; want %d", got, want)
	}
	if Add(l...) != 0 || Mul(l...) != 0 {
		t.Errorf("P102: Add and Mul of zeros: %d, %d; want 0, 0", Add(l...), Mul(l...))
	}
}

// all answers one byte for each of many calls, in the order in which from walks through them.
func all(from func(yield func(int) bool)) [256][4]byte {
	var l [256][4]byte
	for i := range from {
		a := byte(i)
		l[i] = [4]byte{Add(a, 77), Mul(a, 77, a), Inv(a), Power(i - 128)}
	}
	return l
}

func TestP102ArgumentsAlone(t *testing.T) {
	rising := all(func(yield func(int) bool) {
		for i := 0; i < 256 && yield(i); i++ {
		}
	})
	falling := all(func(yield func(int) bool) {
		for i := 255; i >= 0 && yield(i); i-- {
		}
	})
	if rising != falling {
		t.Error("P102: the same calls in another order answered otherwise")
	}
}
