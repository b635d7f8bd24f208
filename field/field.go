// Package field is layer 1: two fields, of bytes and of blocks. See shared/doc/01-field.md.
package field

import (
	"iter"

	"citadel/api"
)

const (
	byteRest  = 0x1b // x^8 as a byte: x^4 + x^3 + x + 1
	blockRest = 0x87 // the first byte of x^128 as a block: x^7 + x^2 + x + 1
	topBit    = 0x80
	maxTimes  = 4096
)

// Twice is a byte times x.
func Twice(b byte) byte {
	if b&topBit != 0 {
		return b<<1 ^ byteRest
	}
	return b << 1
}

// Mul is a product.
func Mul(a, b byte) byte {
	var sum byte
	for ; b != 0; b >>= 1 {
		if b&1 != 0 {
			sum ^= a
		}
		a = Twice(a)
	}
	return sum
}

// Inv is the byte whose product with another one is 1; 0 of 0.
func Inv(b byte) byte {
	// b^255 is 1 for every b but 0, so b^254 is the inverse: it is the product of b^2, b^4 .. b^128.
	product := byte(1)
	for range 7 {
		b = Mul(b, b)
		product = Mul(product, b)
	}
	return product
}

// Powers is an iterator over a byte's powers, from the 0th on, without an end.
func Powers(b byte) iter.Seq[byte] {
	return func(yield func(byte) bool) {
		// The power stands in here, so that each loop over the same iterator begins anew.
		power := byte(1)
		for yield(power) {
			power = Mul(power, b)
		}
	}
}

// Double is a block times x.
func Double(k api.Key) api.Key {
	var double api.Key
	var carry byte
	for i, b := range k {
		double[i] = b<<1 | carry
		carry = b >> 7
	}
	if carry != 0 {
		double[0] ^= blockRest
	}
	return double
}

// Halve is the block whose double is another one.
func Halve(k api.Key) api.Key {
	var carry byte
	// Only a double from which x^128 was taken away has the lowest bit: give it back first.
	if k[0]&1 != 0 {
		k[0] ^= blockRest
		carry = topBit
	}
	var half api.Key
	for i := len(k) - 1; i >= 0; i-- {
		half[i] = k[i]>>1 | carry
		carry = k[i] << 7
	}
	return half
}

// Xor is a sum.
func Xor(a, b api.Key) api.Key {
	var sum api.Key
	for i := range sum {
		sum[i] = a[i] ^ b[i]
	}
	return sum
}

// Times is a block doubled so many times, or halved, if the number is below 0; the block itself, if the number is too great.
func Times(k api.Key, n int) api.Key {
	if n < -maxTimes || n > maxTimes {
		return k
	}
	for range n {
		k = Double(k)
	}
	for range -n {
		k = Halve(k)
	}
	return k
}
