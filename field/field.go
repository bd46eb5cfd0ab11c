// Package field reckons with 256 elements: polynomials over 0 and 1, bit i for x to the i, modulo x^8 + x^4 + x^3 + x^2 + 1.
package field

const (
	// tail is what x^8 is, modulo the polynomial: x^4 + x^3 + x^2 + 1.
	tail = 0x1d
	// order is how many elements are not 0; each of them to that power is 1.
	order = 255
)

// Add answers the sum of as many elements as there are; of none it is 0.
func Add(l ...byte) byte {
	sum := byte(0)
	for _, a := range l {
		sum ^= a
	}
	return sum
}

// Mul answers the product of as many elements as there are; of none it is 1.
func Mul(l ...byte) byte {
	product := byte(1)
	for _, a := range l {
		product = times(product, a)
	}
	return product
}

// Inv answers the element whose product with a is 1, and 0 of 0.
func Inv(a byte) byte {
	// a to the order is 1, so one power less is what a lacks; and 0 stays 0 without a case of its own.
	return raise(a, order-1)
}

// Power answers 2 to the n, of an n below 0 too.
func Power(n int) byte {
	// Powers come round after the order; so no n need be negated, which the least int could not be.
	n %= order
	if n < 0 {
		n += order
	}
	return raise(2, n)
}

// double multiplies by x.
func double(a byte) byte {
	if a&0x80 != 0 {
		return a<<1 ^ tail
	}
	return a << 1
}

// times multiplies two elements.
func times(a, b byte) byte {
	product := byte(0)
	for b != 0 {
		if b&1 == 1 {
			product ^= a
		}
		a = double(a)
		b >>= 1
	}
	return product
}

// raise answers a to the n, for n from 0 on, by squares.
func raise(a byte, n int) byte {
	power := byte(1)
	for n > 0 {
		if n&1 == 1 {
			power = times(power, a)
		}
		a = times(a, a)
		n >>= 1
	}
	return power
}
