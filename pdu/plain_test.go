package pdu_test

import (
	"bytes"
	"encoding/binary"
	"io"
	"math"
	"math/rand/v2"
	"slices"
	"strconv"

	"citadel/api"
)

// The chapter's words, made plainly, over another make of numbers and of reading, without a call of the program.

// plainSame is whether frames are the same.
func plainSame(a, b api.Frame) bool {
	if a.Kind != b.Kind || a.N != b.N {
		return false
	}
	return a.Code == b.Code && string(a.Data) == string(b.Data)
}

// plainForm is whether a frame is in form.
func plainForm(f api.Frame) bool {
	if f.Kind < 1 || f.Kind > 8 {
		return false
	}
	if f.N < 0 || f.N > math.MaxUint32 || f.Code < 0 || f.Code > math.MaxUint8 {
		return false
	}
	return len(f.Data) <= 4096
}

// said is what a frame's bytes say ahead of its Data.
type said struct {
	Kind uint8
	N    uint32
	Code uint8
	Size uint16
}

// plainEncode is the bytes of a frame in form.
func plainEncode(f api.Frame) []byte {
	var out bytes.Buffer
	binary.Write(&out, binary.BigEndian, said{uint8(f.Kind), uint32(f.N), uint8(f.Code), uint16(len(f.Data))})
	out.Write(f.Data)
	return out.Bytes()
}

// plainDecode is the frame of bytes, and whether they are one's.
func plainDecode(b []byte) (api.Frame, bool) {
	in := bytes.NewReader(b)
	var s said
	if binary.Read(in, binary.BigEndian, &s) != nil {
		return api.Frame{}, false
	}
	data := make([]byte, s.Size)
	if _, err := io.ReadFull(in, data); err != nil || in.Len() > 0 {
		return api.Frame{}, false
	}
	f := api.Frame{Kind: int(s.Kind), N: int(s.N), Code: int(s.Code), Data: data}
	return f, plainForm(f)
}

// named are the errors that have a name, with the words that api tells of them.
var named = []struct {
	err    api.Errno
	word   string
	status int
}{
	{api.ErrRange, "range", 2},
	{api.ErrForm, "form", 2},
	{api.ErrKey, "key", 2},
	{api.ErrUnwrap, "unwrap", 2},
	{api.ErrDown, "down", 2},
	{api.ErrTamper, "tamper", 3},
	{api.ErrFull, "full", 2},
	{api.ErrBusy, "busy", 8},
	{api.ErrConflict, "conflict", 24},
	{api.ErrFrame, "frame", 2},
	{api.ErrCommand, "command", 2},
	{api.ErrLogin, "login", 2},
	{api.ErrOrder, "order", 2},
}

// sizes are lengths of Data that frames in form have: those at the edges of a byte, of a piece, and of what is allowed.
var sizes = []int{0, 1, 2, 3, 9, 127, 128, 254, 255, 256, 257, 511, 512, 1000, 2048, 4094, 4095, 4096}

// longSizes are lengths that are too long, also such as cut to fewer bits would be good ones.
var longSizes = []int{4097, 4098, 5000, 8192, 32767, 32768, 65535, 65536, 65537, 65536 + 255, 65536 + 4096, 1 << 20}

// goodNumbers are numbers that frames in form have, which count in each of their four bytes.
var goodNumbers = []int{0, 1, 2, 127, 128, 255, 256, 257, 1<<16 - 1, 1 << 16, 1<<24 - 1, 1 << 24, 0x01020304, 1<<31 - 1, 1 << 31, 1<<32 - 2, 1<<32 - 1}

// badNumbers are numbers that no frame in form has, also such as cut to fewer bits would be good ones.
var badNumbers = []int{-1, -2, -128, -256, math.MinInt32, -1<<32 + 1, -1 << 32, -1<<32 - 1, 1 << 32, 1<<32 + 1, 1 << 33, 1 << 40, 1 << 62, math.MaxInt - 1, math.MaxInt, math.MinInt, math.MinInt + 1}

// badKinds are likewise kinds.
var badKinds = []int{0, 9, 10, 15, 16, 255, 256, 257, 258, 264, 265, 1 << 16, 1<<16 + 1, 1<<32 + 1, 1<<32 + 8, math.MaxInt - 1, math.MaxInt, -1, -2, -7, -8, -9, -248, -255, -256, -1<<32 + 1, math.MinInt, math.MinInt + 1, math.MinInt + 8}

// badCodes are likewise codes.
var badCodes = []int{256, 257, 511, 512, 65535, 65536, 1 << 32, 1<<32 + 1, 1 << 62, math.MaxInt - 1, math.MaxInt, -1, -2, -128, -255, -256, -257, math.MinInt32, math.MinInt, math.MinInt + 1}

func dice(seed uint64) *rand.Rand { return rand.New(rand.NewPCG(17, seed)) }

// data is so many bytes, which differ from one to the next.
func data(n int) []byte {
	b := make([]byte, n)
	for i := range b {
		b[i] = byte(7*i + i/256 + 1)
	}
	return b
}

func anyBytes(r *rand.Rand, n int) []byte {
	b := make([]byte, n)
	for i := range b {
		b[i] = byte(r.Uint32())
	}
	return b
}

// good is frames in form: each kind, and numbers, codes and lengths at their edges.
func good() []api.Frame {
	all := []api.Frame{
		{Kind: 1}, {Kind: 8, N: 1<<32 - 1, Code: 255, Data: data(4096)}, {Kind: 7, Code: 10},
		{Kind: 5, N: 3, Data: []byte{}}, {Kind: 6, N: 1, Code: 24}, {Kind: 2, N: 255, Data: make([]byte, 48)},
	}
	for i, size := range sizes {
		all = append(all, api.Frame{Kind: 1 + i%8, N: goodNumbers[i%len(goodNumbers)], Code: 15 * i, Data: data(size)})
	}
	return all
}

// bad is frames that aren't in form, by one field each, and by several.
func bad() []api.Frame {
	all := []api.Frame{{}, {Kind: 9, N: -1, Code: 256, Data: data(4097)}, {N: 1, Code: 1, Data: data(1)}}
	for _, kind := range badKinds {
		all = append(all, api.Frame{Kind: kind}, api.Frame{Kind: kind, N: 7, Code: 8, Data: data(9)})
	}
	for i, n := range badNumbers {
		all = append(all, api.Frame{Kind: 1 + i%8, N: n}, api.Frame{Kind: 1, N: n, Code: 8, Data: data(9)})
	}
	for i, code := range badCodes {
		all = append(all, api.Frame{Kind: 1 + i%8, Code: code}, api.Frame{Kind: 8, N: 7, Code: code, Data: data(9)})
	}
	for i, size := range longSizes {
		all = append(all, api.Frame{Kind: 1 + i%8, Data: make([]byte, size)}, api.Frame{Kind: 2, N: 7, Code: 8, Data: data(size)})
	}
	return all
}

// roomy is the same frame, with room behind its Data that isn't noughts; and the Data with the room.
func roomy(f api.Frame) (api.Frame, []byte) {
	room := slices.Concat(f.Data, bytes.Repeat([]byte{0xaa}, 300))
	f.Data = room[:len(f.Data)]
	return f, room
}

// spoil writes over bytes, and all room behind them.
func spoil(b []byte) {
	b = b[:cap(b)]
	for i := range b {
		b[i] ^= 0x5a
	}
}

// brief tells a frame, and of its Data the beginning.
func brief(f api.Frame) string {
	return "frame " + strconv.Itoa(f.Kind) + ", N " + strconv.Itoa(f.N) + ", Code " + strconv.Itoa(f.Code) + ", " + strconv.Itoa(len(f.Data)) + " bytes " + strconv.Quote(string(f.Data[:min(len(f.Data), 20)]))
}
