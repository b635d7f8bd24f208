package sbox_test

import (
	"math"
	"testing"

	"citadel/api"
	"citadel/sbox"
)

// published is the table of substitutes, as the cipher's definition prints it.
var published = [256]byte{
	0x63, 0x7c, 0x77, 0x7b, 0xf2, 0x6b, 0x6f, 0xc5, 0x30, 0x01, 0x67, 0x2b, 0xfe, 0xd7, 0xab, 0x76,
	0xca, 0x82, 0xc9, 0x7d, 0xfa, 0x59, 0x47, 0xf0, 0xad, 0xd4, 0xa2, 0xaf, 0x9c, 0xa4, 0x72, 0xc0,
	0xb7, 0xfd, 0x93, 0x26, 0x36, 0x3f, 0xf7, 0xcc, 0x34, 0xa5, 0xe5, 0xf1, 0x71, 0xd8, 0x31, 0x15,
	0x04, 0xc7, 0x23, 0xc3, 0x18, 0x96, 0x05, 0x9a, 0x07, 0x12, 0x80, 0xe2, 0xeb, 0x27, 0xb2, 0x75,
	0x09, 0x83, 0x2c, 0x1a, 0x1b, 0x6e, 0x5a, 0xa0, 0x52, 0x3b, 0xd6, 0xb3, 0x29, 0xe3, 0x2f, 0x84,
	0x53, 0xd1, 0x00, 0xed, 0x20, 0xfc, 0xb1, 0x5b, 0x6a, 0xcb, 0xbe, 0x39, 0x4a, 0x4c, 0x58, 0xcf,
	0xd0, 0xef, 0xaa, 0xfb, 0x43, 0x4d, 0x33, 0x85, 0x45, 0xf9, 0x02, 0x7f, 0x50, 0x3c, 0x9f, 0xa8,
	0x51, 0xa3, 0x40, 0x8f, 0x92, 0x9d, 0x38, 0xf5, 0xbc, 0xb6, 0xda, 0x21, 0x10, 0xff, 0xf3, 0xd2,
	0xcd, 0x0c, 0x13, 0xec, 0x5f, 0x97, 0x44, 0x17, 0xc4, 0xa7, 0x7e, 0x3d, 0x64, 0x5d, 0x19, 0x73,
	0x60, 0x81, 0x4f, 0xdc, 0x22, 0x2a, 0x90, 0x88, 0x46, 0xee, 0xb8, 0x14, 0xde, 0x5e, 0x0b, 0xdb,
	0xe0, 0x32, 0x3a, 0x0a, 0x49, 0x06, 0x24, 0x5c, 0xc2, 0xd3, 0xac, 0x62, 0x91, 0x95, 0xe4, 0x79,
	0xe7, 0xc8, 0x37, 0x6d, 0x8d, 0xd5, 0x4e, 0xa9, 0x6c, 0x56, 0xf4, 0xea, 0x65, 0x7a, 0xae, 0x08,
	0xba, 0x78, 0x25, 0x2e, 0x1c, 0xa6, 0xb4, 0xc6, 0xe8, 0xdd, 0x74, 0x1f, 0x4b, 0xbd, 0x8b, 0x8a,
	0x70, 0x3e, 0xb5, 0x66, 0x48, 0x03, 0xf6, 0x0e, 0x61, 0x35, 0x57, 0xb9, 0x86, 0xc1, 0x1d, 0x9e,
	0xe1, 0xf8, 0x98, 0x11, 0x69, 0xd9, 0x8e, 0x94, 0x9b, 0x1e, 0x87, 0xe9, 0xce, 0x55, 0x28, 0xdf,
	0x8c, 0xa1, 0x89, 0x0d, 0xbf, 0xe6, 0x42, 0x68, 0x41, 0x99, 0x2d, 0x0f, 0xb0, 0x54, 0xbb, 0x16,
}

// plainMul multiplies by the words of layer 1's chapter alone, without a call of that layer.
func plainMul(a, b byte) byte {
	product := 0
	for i := range 8 {
		if b>>i&1 == 1 {
			product ^= int(a) << i
		}
	}
	for i := 14; i >= 8; i-- {
		if product>>i&1 == 1 {
			product ^= 0x11b << (i - 8)
		}
	}
	return byte(product)
}

// plainInv looks for the inverse among all bytes.
func plainInv(b byte) byte {
	for i := range 256 {
		if plainMul(byte(i), b) == 1 {
			return byte(i)
		}
	}
	return 0
}

// plainSub substitutes bit by bit: a rotation left by n brings to bit i what stood at bit i - n.
func plainSub(b byte) byte {
	inverse := plainInv(b)
	var sum byte
	for i := range 8 {
		bit := byte(0x63) >> i & 1
		for n := range 5 {
			bit ^= inverse >> ((i - n + 8) % 8) & 1
		}
		sum |= bit << i
	}
	return sum
}

// blocks has every byte at every place of a block.
func blocks() []api.Key {
	var all []api.Key
	for first := range 256 {
		var k api.Key
		for i := range k {
			k[i] = byte(first + 37*i)
		}
		all = append(all, k)
	}
	return all
}

// P2.1: the chapter's examples.
func TestExamples(t *testing.T) {
	if s := sbox.Sub(0); s != 0x63 {
		t.Errorf("Sub(0): %x", s)
	}
	if s := sbox.Sub(0x53); s != 0xed {
		t.Errorf("Sub(0x53): %x", s)
	}
	if c := sbox.Constant(9); c != [4]byte{0x1b, 0, 0, 0} {
		t.Errorf("Constant(9): %x", c)
	}
}

// P2.1: Sub and Back at every byte, held against the chapter's words and against the published table.
func TestSubIsAsToldAndPublished(t *testing.T) {
	for i := range 256 {
		b := byte(i)
		if s := sbox.Sub(b); s != plainSub(b) || s != published[b] {
			t.Errorf("Sub(%x): %x, want %x and %x", b, s, plainSub(b), published[b])
		}
		if back := sbox.Back(published[b]); back != b {
			t.Errorf("Back(%x): %x, want %x", published[b], back, b)
		}
	}
}

// P2.2: each undoes the other.
func TestBackAndSubUndoOneAnother(t *testing.T) {
	for i := range 256 {
		b := byte(i)
		if back := sbox.Back(sbox.Sub(b)); back != b {
			t.Errorf("Back(Sub(%x)): %x", b, back)
		}
		if again := sbox.Sub(sbox.Back(b)); again != b {
			t.Errorf("Sub(Back(%x)): %x", b, again)
		}
	}
	for _, k := range blocks() {
		if back := sbox.BackAll(sbox.SubAll(k)); back != k {
			t.Errorf("BackAll(SubAll(%x)): %x", k, back)
		}
		if again := sbox.SubAll(sbox.BackAll(k)); again != k {
			t.Errorf("SubAll(BackAll(%x)): %x", k, again)
		}
	}
}

// P2.2: no byte stays as it is, or becomes its complement.
func TestNoByteStaysOrTurnsOver(t *testing.T) {
	for i := range 256 {
		b := byte(i)
		if s := sbox.Sub(b); s == b || s == ^b {
			t.Errorf("Sub(%x): %x", b, s)
		}
	}
}

// P2.1: a word is substituted byte by byte, each in its own place.
func TestSubWord(t *testing.T) {
	for i := range 256 {
		b := byte(i)
		w := [4]byte{b, b + 1, b ^ 0x5a, 3*b + 7}
		want := [4]byte{plainSub(w[0]), plainSub(w[1]), plainSub(w[2]), plainSub(w[3])}
		if s := sbox.SubWord(w); s != want {
			t.Errorf("SubWord(%x): %x, want %x", w, s, want)
		}
	}
	if s := sbox.SubWord([4]byte{}); s != [4]byte{0x63, 0x63, 0x63, 0x63} {
		t.Errorf("SubWord of noughts: %x", s)
	}
}

// P2.1: the first byte goes behind the others, and four rotations bring a word back.
func TestRotate(t *testing.T) {
	w := [4]byte{1, 2, 3, 4}
	if r := sbox.Rotate(w); r != [4]byte{2, 3, 4, 1} {
		t.Errorf("Rotate(%x): %x", w, r)
	}
	if r := sbox.Rotate(sbox.Rotate(sbox.Rotate(sbox.Rotate(w)))); r != w {
		t.Errorf("four times rotated: %x", r)
	}
	if w != [4]byte{1, 2, 3, 4} {
		t.Errorf("the word itself: %x", w)
	}
}

// P2.1: every round's constant, from 1 to 60.
func TestConstant(t *testing.T) {
	power := byte(1)
	for i := 1; i <= 60; i++ {
		if c := sbox.Constant(i); c != [4]byte{power, 0, 0, 0} {
			t.Errorf("Constant(%d): %x, want %x first", i, c, power)
		}
		power = plainMul(power, 2)
	}
	// The definition's own list of the first ten.
	for i, want := range []byte{0x01, 0x02, 0x04, 0x08, 0x10, 0x20, 0x40, 0x80, 0x1b, 0x36} {
		if c := sbox.Constant(i + 1); c != [4]byte{want} {
			t.Errorf("Constant(%d): %x, want %x first", i+1, c, want)
		}
	}
	if c := sbox.Constant(60); c == [4]byte{} {
		t.Error("Constant(60): noughts")
	}
}

// P2.1: noughts outside of 1 to 60.
func TestConstantOutOfRange(t *testing.T) {
	for _, i := range []int{0, 61, 62, 64, 256, 257, 1 << 32, 1<<32 + 1, math.MaxInt32, math.MaxInt - 1, math.MaxInt,
		-1, -2, -60, -255, -1 << 32, math.MinInt32, math.MinInt + 1, math.MinInt} {
		if c := sbox.Constant(i); c != [4]byte{} {
			t.Errorf("Constant(%d): %x", i, c)
		}
	}
}

// P2.1: a block is substituted byte by byte, and back, every byte at every place.
func TestSubAllAndBackAll(t *testing.T) {
	for _, k := range blocks() {
		before := k
		hidden, shown := sbox.SubAll(k), sbox.BackAll(k)
		for i, b := range before {
			if hidden[i] != plainSub(b) {
				t.Errorf("SubAll(%x), byte %d: %x", before, i, hidden[i])
			}
			if plainSub(shown[i]) != b {
				t.Errorf("BackAll(%x), byte %d: %x", before, i, shown[i])
			}
		}
		if k != before {
			t.Errorf("the block itself: %x", k)
		}
	}
}
