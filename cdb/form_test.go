package cdb_test

import (
	"bytes"
	"math"
	"math/rand/v2"
	"slices"
	"testing"

	"citadel/api"
	"citadel/cdb"
)

// encoded is the bytes of a command that must be in form.
func encoded(t *testing.T, c api.Command) []byte {
	t.Helper()
	b, err := cdb.Encode(c)
	if err != nil {
		t.Fatalf("Encode of %+v: %v", c, err)
	}
	return b
}

// decodes asks whether Decode answers as the plain one does; bytes that are a command's are those that Encode makes of it.
func decodes(t *testing.T, b []byte) {
	t.Helper()
	got, err := cdb.Decode(b)
	want, ok := plainDecode(b)
	if !ok {
		if err != api.ErrCommand || !plainSame(got, api.Command{}) {
			t.Fatalf("Decode of % x: %+v, %v", b, got, err)
		}
		return
	}
	if err != nil || !plainSame(got, want) {
		t.Fatalf("Decode of % x: %+v, %v; want %+v", b, got, err, want)
	}
	if again, err := cdb.Encode(got); err != nil || !bytes.Equal(again, b) {
		t.Fatalf("Encode of %+v: % x, %v; want % x", got, again, err, b)
	}
}

// refused asks Decode for ErrCommand, and the zero command.
func refused(t *testing.T, b []byte) {
	t.Helper()
	if c, err := cdb.Decode(b); err != api.ErrCommand || !plainSame(c, api.Command{}) {
		t.Errorf("Decode of %d bytes, % x: %+v, %v", len(b), b[:min(len(b), 40)], c, err)
	}
}

// eachKind is commands of all kinds.
func eachKind() []api.Command {
	return []api.Command{
		read(1, 2, 3), read(0, 0, 0), read(255, 65535, 65535),
		write(0, 5, 1), write(1, 14, 2), write(2, 65535, 16), write(0, 0, 0),
		{Kind: 3}, {Kind: 4, Unit: 1}, {Kind: 5, Block: 99}, {Kind: 7, Unit: 255, Block: 1, Many: 2},
		reserve(0, api.ResvOp{}), reserve(1, api.ResvOp{Op: 1, New: 7, Type: 3, Stays: true}), reserve(255, api.ResvOp{Op: 255, Key: math.MaxInt, New: math.MaxInt, Type: 255}),
	}
}

// P15.1: the bytes of commands, one by one; and back.
func TestBytes(t *testing.T) {
	one := data(128)
	for i, x := range []struct {
		c api.Command
		b []byte
	}{
		{read(1, 2, 3), []byte{1, 1, 0, 2, 0, 3}},
		{read(255, 0x0102, 0xfffe), []byte{1, 0xff, 1, 2, 0xff, 0xfe}},
		{write(0, 0, 0), []byte{2, 0, 0, 0, 0, 0}},
		{write(1, 15, 1), append([]byte{2, 1, 0, 15, 0, 1}, one...)},
		{write(0, 3, 2), append([]byte{2, 0, 0, 3, 0, 2}, data(256)...)},
		{write(9, 65535, 16), append([]byte{2, 9, 0xff, 0xff, 0, 16}, data(2048)...)},
		{api.Command{Kind: 3}, []byte{3, 0, 0, 0, 0, 0}},
		{api.Command{Kind: 4, Unit: 1}, []byte{4, 1, 0, 0, 0, 0}},
		{api.Command{Kind: 5, Unit: 2, Block: 65535, Many: 256}, []byte{5, 2, 0xff, 0xff, 1, 0}},
		{api.Command{Kind: 7, Many: 65535}, []byte{7, 0, 0, 0, 0xff, 0xff}},
		{reserve(0, api.ResvOp{}), []byte{6, 0, 0, 0, 0, 0, 0, 0, 0, 0, 0, 0, 0, 0, 0, 0, 0, 0, 0, 0, 0, 0, 0, 0, 0}},
		{reserve(1, api.ResvOp{Op: 5, Key: 0x0102030405060708, New: 0x1112131415161718, Type: 6, Stays: true}), []byte{6, 1, 0, 0, 0, 0, 5, 1, 2, 3, 4, 5, 6, 7, 8, 0x11, 0x12, 0x13, 0x14, 0x15, 0x16, 0x17, 0x18, 6, 1}},
		{reserve(0, api.ResvOp{Op: 255, Key: math.MaxInt, New: 1, Type: 255}), []byte{6, 0, 0, 0, 0, 0, 255, 0x7f, 255, 255, 255, 255, 255, 255, 255, 0, 0, 0, 0, 0, 0, 0, 1, 255, 0}},
		{api.Command{Kind: 6, Block: 1, Many: 2, Resv: api.ResvOp{Key: 1, New: math.MaxInt}}, []byte{6, 0, 0, 1, 0, 2, 0, 0, 0, 0, 0, 0, 0, 0, 1, 0x7f, 255, 255, 255, 255, 255, 255, 255, 0, 0}},
	} {
		if b, err := cdb.Encode(x.c); err != nil || !bytes.Equal(b, x.b) {
			t.Errorf("%d: Encode: % x, %v", i, b, err)
		}
		if c, err := cdb.Decode(x.b); err != nil || !plainSame(c, x.c) {
			t.Errorf("%d: Decode: %+v, %v", i, c, err)
		}
	}
}

// P15.2: each kind with each of the units, encoded and decoded.
func TestKindsAndUnits(t *testing.T) {
	for kind := 1; kind <= 7; kind++ {
		for unit := 0; unit < 256; unit++ {
			c := api.Command{Kind: kind, Unit: unit, Block: 300, Many: 2}
			if kind == 2 {
				c.Data = data(256)
			}
			if kind == 6 {
				c.Resv = api.ResvOp{Op: unit % 7, Key: unit, New: 1 << (unit % 63), Type: unit % 9, Stays: unit%2 == 1}
			}
			b := encoded(t, c)
			if b[0] != byte(kind) || b[1] != byte(unit) {
				t.Fatalf("%+v: % x", c, b)
			}
			if d, err := cdb.Decode(b); err != nil || !plainSame(d, c) || !cdb.Same(d, c) {
				t.Fatalf("%+v: %+v, %v", c, d, err)
			}
		}
	}
}

// P15.2: each operation, of each type, with Stays and without.
func TestOperations(t *testing.T) {
	for op := 0; op < 256; op++ {
		for kind := 0; kind < 256; kind++ {
			for _, stays := range []bool{false, true} {
				c := reserve(1, api.ResvOp{Op: op, Key: op * kind, New: 1 << (kind % 63), Type: kind, Stays: stays})
				if d, err := cdb.Decode(encoded(t, c)); err != nil || !plainSame(d, c) {
					t.Fatalf("%+v: %+v, %v", c, d, err)
				}
			}
		}
	}
}

// P15.2: each Block and each Many, encoded and decoded.
func TestPairs(t *testing.T) {
	for n := 0; n < 65536; n++ {
		c := api.Command{Kind: 5, Block: n, Many: 65535 - n}
		if d, err := cdb.Decode(encoded(t, c)); err != nil || !plainSame(d, c) {
			t.Fatalf("%+v: %+v, %v", c, d, err)
		}
	}
}

// P15.1: no bytes, all beginnings of a command's bytes, and more bytes behind them are none's.
func TestDecodeLengths(t *testing.T) {
	refused(t, nil)
	refused(t, []byte{})
	for _, c := range eachKind() {
		b := encoded(t, c)
		for k := range b {
			refused(t, b[:k])
		}
		for _, more := range []int{1, 2, 6, 19, 127, 128, 129, 2048, 1 << 16} {
			refused(t, append(bytes.Clone(b), make([]byte, more)...))
			refused(t, append(bytes.Clone(b), data(more)...))
		}
	}
	// A whole block more or less, with Many as it is.
	b := encoded(t, write(0, 0, 16))
	for many := 0; many <= 20; many++ {
		long := append(slices.Clone(b[:6]), data(128*many)...)
		if many == 16 {
			decodes(t, long)
		} else {
			refused(t, long)
		}
	}
	refused(t, make([]byte, 1<<22))
}

// P15.1: bytes whose numbers no command in form has are refused.
func TestDecodeRefuses(t *testing.T) {
	for kind := 0; kind < 256; kind++ {
		if kind < 1 || kind > 7 {
			for _, more := range []int{0, 1, 19, 128} {
				refused(t, append([]byte{byte(kind), 0, 0, 0, 0, 1}, make([]byte, more)...))
			}
		}
	}
	for many := 17; many < 65536; many += 1 + many/64 {
		refused(t, append([]byte{2, 0, 0, 0, byte(many / 256), byte(many)}, make([]byte, 128*many%(1<<20))...))
	}
	refused(t, append([]byte{2, 0, 0, 0, 0, 17}, data(17*128)...))
	refused(t, append([]byte{2, 0, 0, 0, 1, 0}, data(256*128)...))
	refused(t, append([]byte{2, 0, 0, 0, 0xff, 0xff}, data(65535*128)...))
	good := encoded(t, reserve(1, api.ResvOp{Op: 1, Key: 2, New: 3, Type: 4}))
	for stays := 2; stays < 256; stays++ {
		b := bytes.Clone(good)
		b[24] = byte(stays)
		refused(t, b)
	}
	// Numbers of eight bytes that are no int: the first bit of Key, and of New.
	for _, at := range []int{7, 15} {
		for top := 128; top < 256; top++ {
			b := bytes.Clone(good)
			b[at] = byte(top)
			refused(t, b)
			for k := 1; k < 8; k++ {
				b[at+k] = 0xff
			}
			refused(t, b)
		}
	}
}

// P15.1: each byte of a command's bytes changed, to each other one.
func TestDecodeOtherBytes(t *testing.T) {
	for _, c := range eachKind() {
		b := encoded(t, c)
		for at := range b {
			if at > 40 && at%61 != 0 && at < len(b)-1 {
				continue
			}
			other := bytes.Clone(b)
			for range 255 {
				other[at]++
				decodes(t, other)
				if d, err := cdb.Decode(other); err == nil && plainSame(d, c) {
					t.Fatalf("byte %d of %+v doesn't matter", at, c)
				}
			}
		}
	}
}

// P15.1, P15.2: each kind byte at each length there may be.
func TestDecodeKindsAndLengths(t *testing.T) {
	for kind := 0; kind < 12; kind++ {
		for many := 0; many < 19; many++ {
			for size := 6; size < 2400; size++ {
				if size > 40 && (size%128 < 3 || size%128 > 9) {
					continue
				}
				b := make([]byte, size)
				b[0], b[5] = byte(kind), byte(many)
				decodes(t, b)
			}
		}
	}
}

// P15.2: of small numbers all rows of bytes: those that are commands' are those that Encode makes, and no two are of one command.
func TestDecodeSmallRows(t *testing.T) {
	values := []byte{0, 1, 2, 6, 7, 8, 255}
	row := make([]byte, 6)
	var fill func(at int)
	fill = func(at int) {
		if at == len(row) {
			decodes(t, row)
			return
		}
		for _, v := range values {
			row[at] = v
			fill(at + 1)
		}
	}
	fill(0)
}

// P15.1, P15.2: any bytes that look like commands'.
func TestDecodeAny(t *testing.T) {
	r := rand.New(rand.NewPCG(15, 2))
	good := 0
	of := func(numbers ...int) int { return numbers[r.IntN(len(numbers))] }
	for range 60000 {
		kind, many := of(1, 2, 2, 3, 4, 5, 6, 6, 6, 7, r.IntN(256)), of(0, 1, 2, 3, 16, 17)
		size := 6
		if kind == 2 {
			size += 128 * many
		}
		if kind == 6 {
			size += 19
		}
		size += of(0, 0, 0, 0, 0, 0, -1, 1, 128)
		b := make([]byte, size)
		for i := range b {
			b[i] = byte(r.Uint32())
		}
		if size > 5 {
			b[0], b[4], b[5] = byte(kind), 0, byte(many)
		}
		if size > 24 && kind == 6 {
			b[7], b[15], b[24] = b[7]>>of(1, 1, 1, 0), b[15]>>of(1, 1, 1, 0), byte(of(0, 1, 0, 1, 2, 129, 255))
		}
		decodes(t, b)
		if _, ok := plainDecode(b); ok {
			good++
		}
	}
	if good < 15000 {
		t.Error("too few are commands':", good)
	}
}

// roomy is the same command, with room behind its Data; and the Data with the room.
func roomy(c api.Command) (api.Command, []byte) {
	room := append(bytes.Clone(c.Data), bytes.Repeat([]byte{0xaa}, 300)...)
	c.Data = room[:len(c.Data)]
	return c, room
}

// spoil writes over bytes, and all room behind them.
func spoil(b []byte) {
	b = b[:cap(b)]
	for i := range b {
		b[i] ^= 0x5a
	}
}

// P15.3: what Encode is handed isn't changed, nor kept, nor does its answer share memory with it or with another one.
func TestEncodeNewMemory(t *testing.T) {
	for _, c := range eachKind() {
		want := plainEncode(c)
		given, room := roomy(c)
		ahead := bytes.Clone(room)
		one, two := encoded(t, given), encoded(t, given)
		spoil(one)
		if !bytes.Equal(room, ahead) || !bytes.Equal(two, want) {
			t.Fatalf("%+v: an answer shares memory", c)
		}
		spoil(room)
		if !bytes.Equal(two, want) {
			t.Fatalf("%+v: what is handed in is kept", c)
		}
		if three := encoded(t, c); !bytes.Equal(three, want) {
			t.Fatalf("%+v: a later answer is another one", c)
		}
	}
}

// P15.3: what Decode is handed isn't changed, nor kept, nor does its answer share memory with it or with another one.
func TestDecodeNewMemory(t *testing.T) {
	for _, c := range eachKind() {
		b := plainEncode(c)
		room := append(bytes.Clone(b), bytes.Repeat([]byte{0xaa}, 300)...)
		ahead := bytes.Clone(room)
		given := room[:len(b)]
		one, err := cdb.Decode(given)
		two, err2 := cdb.Decode(given)
		if err != nil || err2 != nil || !bytes.Equal(room, ahead) {
			t.Fatalf("%+v: %v, %v, or changed", c, err, err2)
		}
		spoil(one.Data)
		if !bytes.Equal(room, ahead) || !plainSame(two, c) {
			t.Fatalf("%+v: an answer shares memory", c)
		}
		spoil(room)
		if !plainSame(two, c) {
			t.Fatalf("%+v: what is handed in is kept", c)
		}
	}
}

// P15.3: the other calls, and refused ones, change nothing.
func TestOthersChangeNothing(t *testing.T) {
	for _, c := range append(eachKind(), api.Command{Kind: 1, Data: data(9)}, api.Command{Kind: 2, Many: 3, Data: data(128)}) {
		given, room := roomy(c)
		ahead := bytes.Clone(room)
		cdb.Check(given)
		cdb.Access(given)
		cdb.Same(given, c)
		cdb.Same(c, given)
		cdb.Encode(given)
		cdb.Decode(room)
		cdb.Decode(given.Data)
		collect(given)
		if !bytes.Equal(room, ahead) {
			t.Fatalf("%+v: changed", c)
		}
	}
}
