package field_test

import (
	"iter"
	"math"
	"math/big"
	"slices"
	"testing"

	"citadel/api"
	"citadel/field"
)

// plainMul multiplies by the chapter's words alone: a product of polynomials, and then what is left of it.
func plainMul(a, b byte) byte {
	product := 0
	for i := range 8 {
		if b>>i&1 == 1 {
			product ^= int(a) << i
		}
	}
	for i := 14; i >= 8; i-- {
		if product>>i&1 == 1 {
			product ^= 0x11b << (i - 8)
		}
	}
	return byte(product)
}

// products is a table of all products, so that the laws can be asked of all triples.
func products() *[256][256]byte {
	var table [256][256]byte
	for a := range 256 {
		for b := range 256 {
			table[a][b] = field.Mul(byte(a), byte(b))
		}
	}
	return &table
}

// number is a block as a number whose bit n is the coefficient of x^n.
func number(k api.Key) *big.Int {
	bytes := k
	slices.Reverse(bytes[:])
	return new(big.Int).SetBytes(bytes[:])
}

// block undoes number.
func block(n *big.Int) api.Key {
	var k api.Key
	n.FillBytes(k[:])
	slices.Reverse(k[:])
	return k
}

// modulus is x^128 + x^7 + x^2 + x + 1.
func modulus() *big.Int {
	n := big.NewInt(0x87)
	return n.SetBit(n, 128, 1)
}

// plainDouble doubles by the chapter's words alone.
func plainDouble(k api.Key) api.Key {
	n := number(k)
	n.Lsh(n, 1)
	if n.Bit(128) == 1 {
		n.Xor(n, modulus())
	}
	return block(n)
}

// plainHalve halves by the chapter's words alone: the modulus is added where x doesn't divide.
func plainHalve(k api.Key) api.Key {
	n := number(k)
	if n.Bit(0) == 1 {
		n.Xor(n, modulus())
	}
	return block(n.Rsh(n, 1))
}

// blocks is the edges, each bit by itself, and a row of blocks that look like any.
func blocks() []api.Key {
	var all api.Key
	for i := range all {
		all[i] = 0xff
	}
	list := []api.Key{{}, all, {0x87}, {0x86}, {0x88}, {1, 15: 0x80}, {0: 0x80, 14: 0x80, 15: 0x7f}}
	for bit := range 128 {
		var k api.Key
		k[bit/8] = 1 << (bit % 8)
		list = append(list, k)
	}
	state := uint32(1)
	for range 300 {
		var k api.Key
		for i := range k {
			state = state*1664525 + 1013904223
			k[i] = byte(state >> 24)
		}
		list = append(list, k)
	}
	return list
}

// firsts is the first so many of an iterator, which is left then.
func firsts(seq iter.Seq[byte], many int) []byte {
	var list []byte
	for b := range seq {
		if len(list) == many {
			break
		}
		list = append(list, b)
	}
	return list
}

// P1.1: bytes.

func TestTwice(t *testing.T) {
	for b := range 256 {
		if got, want := field.Twice(byte(b)), plainMul(byte(b), 2); got != want {
			t.Errorf("Twice(%#x) = %#x, want %#x", b, got, want)
		}
	}
	for b, want := range map[byte]byte{0: 0, 1: 2, 0x7f: 0xfe, 0x80: 0x1b, 0xff: 0xe5} {
		if got := field.Twice(b); got != want {
			t.Errorf("Twice(%#x) = %#x, want %#x", b, got, want)
		}
	}
}

func TestMul(t *testing.T) {
	for a := range 256 {
		for b := range 256 {
			if got, want := field.Mul(byte(a), byte(b)), plainMul(byte(a), byte(b)); got != want {
				t.Fatalf("Mul(%#x, %#x) = %#x, want %#x", a, b, got, want)
			}
		}
	}
	for _, x := range [][3]byte{{0x57, 0x83, 0xc1}, {0x57, 0x13, 0xfe}, {0, 0, 0}, {1, 1, 1}, {0xff, 0, 0}, {0xff, 1, 0xff}, {0xff, 0xff, 0x13}} {
		if got := field.Mul(x[0], x[1]); got != x[2] {
			t.Errorf("Mul(%#x, %#x) = %#x, want %#x", x[0], x[1], got, x[2])
		}
	}
}

func TestInv(t *testing.T) {
	for b := range 256 {
		want := byte(0)
		for c := range 256 {
			if plainMul(byte(b), byte(c)) == 1 {
				want = byte(c)
			}
		}
		if got := field.Inv(byte(b)); got != want {
			t.Errorf("Inv(%#x) = %#x, want %#x", b, got, want)
		}
	}
	for b, want := range map[byte]byte{0: 0, 1: 1, 2: 0x8d, 0x53: 0xca, 0xca: 0x53} {
		if got := field.Inv(b); got != want {
			t.Errorf("Inv(%#x) = %#x, want %#x", b, got, want)
		}
	}
}

func TestPowers(t *testing.T) {
	for b := range 256 {
		power := byte(1)
		for i, got := range firsts(field.Powers(byte(b)), 600) {
			if got != power {
				t.Fatalf("power %d of %#x is %#x, want %#x", i, b, got, power)
			}
			power = plainMul(power, byte(b))
		}
	}
	for b, want := range map[byte][]byte{0: {1, 0, 0, 0}, 1: {1, 1, 1, 1}, 2: {1, 2, 4, 8, 16, 32, 64, 128, 0x1b, 0x36}, 3: {1, 3, 5, 15}} {
		if got := firsts(field.Powers(b), len(want)); !slices.Equal(got, want) {
			t.Errorf("powers of %#x: %#x, want %#x", b, got, want)
		}
	}
}

func TestPowersDoNotEnd(t *testing.T) {
	for _, b := range []byte{0, 1, 2, 255} {
		if got := len(firsts(field.Powers(b), 100_000)); got != 100_000 {
			t.Errorf("powers of %#x end after %d", b, got)
		}
	}
}

func TestPowersAreLeft(t *testing.T) {
	for many := range 4 {
		asked := 0
		field.Powers(3)(func(byte) bool {
			asked++
			return asked <= many
		})
		if asked != many+1 {
			t.Errorf("asked %d times, want %d", asked, many+1)
		}
	}
}

func TestPowersBeginAnew(t *testing.T) {
	seq := field.Powers(3)
	first := firsts(seq, 10)
	if again := firsts(seq, 10); !slices.Equal(first, again) {
		t.Errorf("at first %#x, then %#x", first, again)
	}
	i := 0
	for outer := range seq {
		if i == 10 {
			break
		}
		if inner := firsts(seq, 10); outer != first[i] || !slices.Equal(inner, first) {
			t.Fatalf("one within the other: %#x, %#x, want %#x", outer, inner, first)
		}
		i++
	}
}

// P1.1: blocks.

func TestDouble(t *testing.T) {
	for _, k := range blocks() {
		if got, want := field.Double(k), plainDouble(k); got != want {
			t.Errorf("Double(%x) = %x, want %x", k, got, want)
		}
	}
	for k, want := range map[api.Key]api.Key{{}: {}, {15: 0x80}: {0x87}, {0x80}: {0, 1}, {1}: {2}, {1, 15: 0xc0}: {0x85, 15: 0x80}} {
		if got := field.Double(k); got != want {
			t.Errorf("Double(%x) = %x, want %x", k, got, want)
		}
	}
}

func TestHalve(t *testing.T) {
	for _, k := range blocks() {
		if got, want := field.Halve(k), plainHalve(k); got != want {
			t.Errorf("Halve(%x) = %x, want %x", k, got, want)
		}
	}
	for k, want := range map[api.Key]api.Key{{}: {}, {0x87}: {15: 0x80}, {0, 1}: {0x80}, {2}: {1}, {1}: {0x43, 15: 0x80}} {
		if got := field.Halve(k); got != want {
			t.Errorf("Halve(%x) = %x, want %x", k, got, want)
		}
	}
}

func TestXor(t *testing.T) {
	list := blocks()
	for _, a := range list {
		for _, b := range list {
			want := block(new(big.Int).Xor(number(a), number(b)))
			if got := field.Xor(a, b); got != want {
				t.Fatalf("Xor(%x, %x) = %x, want %x", a, b, got, want)
			}
		}
	}
}

func TestTimes(t *testing.T) {
	for _, k := range []api.Key{{}, {1}, {15: 0x80}, {0x87}, {1, 2, 3, 4, 5, 6, 7, 8, 9, 10, 11, 12, 13, 14, 15, 16}} {
		up, down := k, k
		for n := range 4097 {
			if got := field.Times(k, n); got != up {
				t.Fatalf("Times(%x, %d) = %x, want %x", k, n, got, up)
			}
			if got := field.Times(k, -n); got != down {
				t.Fatalf("Times(%x, %d) = %x, want %x", k, -n, got, down)
			}
			up, down = plainDouble(up), plainHalve(down)
		}
	}
}

func TestTimesEdges(t *testing.T) {
	for _, k := range blocks() {
		up, down := k, k
		for range 4096 {
			up, down = field.Double(up), field.Halve(down)
		}
		if got := field.Times(k, 4096); got != up {
			t.Errorf("Times(%x, 4096) = %x, want %x", k, got, up)
		}
		if got := field.Times(k, -4096); got != down {
			t.Errorf("Times(%x, -4096) = %x, want %x", k, got, down)
		}
		for _, n := range []int{0, 4097, -4097, 4098, -4098, 8192, -8192, 1 << 32, -1 << 32, 1<<32 + 1, math.MaxInt32, math.MinInt32, math.MaxInt, -math.MaxInt, math.MinInt} {
			if got := field.Times(k, n); got != k {
				t.Errorf("Times(%x, %d) = %x, want the block itself", k, n, got)
			}
		}
	}
}

// P1.2.

func TestMulLaws(t *testing.T) {
	mul := products()
	for a := range 256 {
		for b := range 256 {
			ab := mul[a][b]
			if ab != mul[b][a] {
				t.Fatalf("%#x times %#x isn't commutative", a, b)
			}
			for c := range 256 {
				if mul[ab][c] != mul[a][mul[b][c]] {
					t.Fatalf("%#x times %#x times %#x isn't associative", a, b, c)
				}
				if mul[a][b^c] != ab^mul[a][c] {
					t.Fatalf("%#x times %#x and %#x doesn't distribute", a, b, c)
				}
			}
		}
	}
}

func TestOneAndInv(t *testing.T) {
	for b := range 256 {
		x := byte(b)
		if field.Mul(1, x) != x || field.Mul(x, 1) != x {
			t.Errorf("1 changes %#x", x)
		}
		if got := field.Inv(field.Inv(x)); got != x {
			t.Errorf("Inv of Inv of %#x is %#x", x, got)
		}
		if got := field.Mul(x, field.Inv(x)); x != 0 && got != 1 || x == 0 && got != 0 {
			t.Errorf("%#x times its inverse is %#x", x, got)
		}
	}
}

// P1.3.

func TestHalveAndDoubleUndo(t *testing.T) {
	for _, k := range blocks() {
		if got := field.Halve(field.Double(k)); got != k {
			t.Errorf("Halve of Double of %x is %x", k, got)
		}
		if got := field.Double(field.Halve(k)); got != k {
			t.Errorf("Double of Halve of %x is %x", k, got)
		}
		for _, n := range []int{1, 7, 128, 4096} {
			if got := field.Times(field.Times(k, n), -n); got != k {
				t.Errorf("%x doubled and halved %d times is %x", k, n, got)
			}
		}
	}
}

func TestDoubleKeepsSums(t *testing.T) {
	list := blocks()
	for _, a := range list {
		for _, b := range list {
			if got, want := field.Double(field.Xor(a, b)), field.Xor(field.Double(a), field.Double(b)); got != want {
				t.Fatalf("%x and %x: the sum's double is %x, the doubles' sum %x", a, b, got, want)
			}
		}
	}
}
