package pdu_test

import (
	"bytes"
	"slices"
	"strings"
	"testing"

	"citadel/api"
	"citadel/pdu"
)

// wantGood tells where a frame in form isn't encoded as the plain make does, or isn't decoded to itself.
func wantGood(t *testing.T, f api.Frame) {
	t.Helper()
	want := plainEncode(f)
	b, err := pdu.Encode(f)
	if err != nil || !bytes.Equal(b, want) {
		t.Fatalf("Encode of %s: % x, %v", brief(f), b[:min(len(b), 20)], err)
	}
	if g, err := pdu.Decode(want); err != nil || !plainSame(g, f) || !pdu.Same(g, f) {
		t.Fatalf("Decode of %s: %s, %v", brief(f), brief(g), err)
	}
}

// wantBad tells where a frame isn't refused, with nothing beside the error.
func wantBad(t *testing.T, f api.Frame) {
	t.Helper()
	if b, err := pdu.Encode(f); b != nil || err != api.ErrFrame {
		t.Errorf("Encode of %s: %d bytes, %v", brief(f), len(b), err)
	}
}

// wantDecode tells where Decode doesn't answer as the plain make does; bytes that are a frame's must be those that Encode makes of it.
func wantDecode(t *testing.T, b []byte) {
	t.Helper()
	want, ok := plainDecode(b)
	if !ok {
		wantRefused(t, b)
		return
	}
	f, err := pdu.Decode(b)
	if err != nil || !plainSame(f, want) {
		t.Fatalf("Decode of %d bytes, % x: %s, %v", len(b), b[:min(len(b), 20)], brief(f), err)
	}
	if again, err := pdu.Encode(f); err != nil || !bytes.Equal(again, b) {
		t.Fatalf("Encode of Decode of %d bytes, % x: % x, %v", len(b), b[:min(len(b), 20)], again[:min(len(again), 20)], err)
	}
}

// wantRefused tells where bytes aren't refused, with the zero frame beside the error.
func wantRefused(t *testing.T, b []byte) {
	t.Helper()
	if f, err := pdu.Decode(b); err != api.ErrFrame || f.Kind != 0 || f.N != 0 || f.Code != 0 || f.Data != nil {
		t.Fatalf("Decode of %d bytes, % x: %s, %v", len(b), b[:min(len(b), 20)], brief(f), err)
	}
}

// P17.1: the bytes of frames, written out; and back.
func TestBytesWrittenOut(t *testing.T) {
	for _, x := range []struct {
		f api.Frame
		b string
	}{
		{pdu.Reject(10), "\x07\x00\x00\x00\x00\x0a\x00\x00"},
		{api.Frame{Kind: 1}, "\x01\x00\x00\x00\x00\x00\x00\x00"},
		{api.Frame{Kind: 8}, "\x08\x00\x00\x00\x00\x00\x00\x00"},
		{api.Frame{Kind: 8, N: 1<<32 - 1, Code: 255}, "\x08\xff\xff\xff\xff\xff\x00\x00"},
		{api.Frame{Kind: 2, N: 0x01020304, Code: 5, Data: []byte("abc")}, "\x02\x01\x02\x03\x04\x05\x00\x03abc"},
		{api.Frame{Kind: 3, N: 1 << 31, Data: []byte{}}, "\x03\x80\x00\x00\x00\x00\x00\x00"},
		{api.Frame{Kind: 4, N: 255, Code: 1, Data: []byte{0}}, "\x04\x00\x00\x00\xff\x01\x00\x01\x00"},
		{api.Frame{Kind: 5, N: 256, Data: []byte(strings.Repeat("x", 255))}, "\x05\x00\x00\x01\x00\x00\x00\xff" + strings.Repeat("x", 255)},
		{api.Frame{Kind: 5, N: 1 << 16, Data: []byte(strings.Repeat("x", 256))}, "\x05\x00\x01\x00\x00\x00\x01\x00" + strings.Repeat("x", 256)},
		{api.Frame{Kind: 6, N: 1 << 24, Code: 24, Data: []byte(strings.Repeat("x", 4095))}, "\x06\x01\x00\x00\x00\x18\x0f\xff" + strings.Repeat("x", 4095)},
		{api.Frame{Kind: 6, N: 9, Code: 8, Data: []byte(strings.Repeat("x", 4096))}, "\x06\x00\x00\x00\x09\x08\x10\x00" + strings.Repeat("x", 4096)},
	} {
		if b, err := pdu.Encode(x.f); string(b) != x.b || err != nil {
			t.Errorf("Encode of %s: % x, %v", brief(x.f), b[:min(len(b), 20)], err)
		}
		if f, err := pdu.Decode([]byte(x.b)); !plainSame(f, x.f) || err != nil {
			t.Errorf("Decode of %s: %s, %v", brief(x.f), brief(f), err)
		}
	}
}

// P17.1, P17.2: each kind with each code, numbers and lengths at their edges, encoded and decoded.
func TestFramesInForm(t *testing.T) {
	for kind := 1; kind <= 8; kind++ {
		for code := range 256 {
			wantGood(t, api.Frame{Kind: kind, N: kind * code, Code: code, Data: data(code % 5)})
		}
		for _, n := range goodNumbers {
			for _, size := range sizes {
				wantGood(t, api.Frame{Kind: kind, N: n, Code: size % 256, Data: data(size)})
			}
		}
	}
}

// P17.1, P17.2: each bit of a number counts.
func TestEachBitOfANumber(t *testing.T) {
	for bit := range 32 {
		wantGood(t, api.Frame{Kind: 5, N: 1 << bit})
		wantGood(t, api.Frame{Kind: 5, N: 1<<32 - 1 - 1<<bit})
	}
}

// P17.1, P17.2: each length that Data may have; the first longer one is refused.
func TestEachLength(t *testing.T) {
	whole := data(4097)
	for size := range 4097 {
		wantGood(t, api.Frame{Kind: 1 + size%8, N: size, Code: size % 256, Data: whole[:size]})
	}
	wantBad(t, api.Frame{Kind: 1, Data: whole})
}

// P17.1: nil and empty Data mean the same, with room behind it and without.
func TestNoData(t *testing.T) {
	for _, none := range [][]byte{nil, {}, make([]byte, 0, 64), data(9)[:0], data(9)[9:]} {
		f := api.Frame{Kind: 5, N: 6, Code: 7, Data: none}
		wantGood(t, f)
		if !pdu.Same(f, api.Frame{Kind: 5, N: 6, Code: 7}) || !pdu.Same(api.Frame{Kind: 5, N: 6, Code: 7, Data: []byte{}}, f) {
			t.Errorf("not the same: %#v", none)
		}
	}
}

// P17.1: frames that aren't in form are refused.
func TestFramesNotInForm(t *testing.T) {
	for _, f := range bad() {
		wantBad(t, f)
	}
	for _, kind := range badKinds {
		for _, n := range badNumbers {
			for _, code := range badCodes {
				wantBad(t, api.Frame{Kind: kind, N: n, Code: code})
				wantBad(t, api.Frame{Kind: 3, N: n, Code: code})
			}
			wantBad(t, api.Frame{Kind: kind, N: n})
		}
	}
	for n := -300; n < 600; n++ {
		if n < 1 || n > 8 {
			wantBad(t, api.Frame{Kind: n})
		}
		if n < 0 || n > 255 {
			wantBad(t, api.Frame{Kind: 1, Code: n})
		}
		if n < 0 {
			wantBad(t, api.Frame{Kind: 1, N: n})
		} else {
			wantBad(t, api.Frame{Kind: 1, N: 1<<32 + n})
		}
	}
}

// P17.1, P17.2: any frames, in form or not.
func TestAnyFrames(t *testing.T) {
	r := dice(1)
	kept := 0
	for range 20000 {
		f := api.Frame{Kind: r.IntN(11) - 1, N: int(r.Uint64()) >> (26 + r.IntN(38)), Code: r.IntN(270) - 7}
		if f.Data = anyBytes(r, r.IntN(80)); r.IntN(50) == 0 {
			f.Data = anyBytes(r, 4000+r.IntN(200))
		}
		if !plainForm(f) {
			wantBad(t, f)
			continue
		}
		kept++
		wantGood(t, f)
	}
	if kept < 5000 {
		t.Error("too few are in form:", kept)
	}
}

// P17.1, P17.2: no bytes, each beginning of a frame's bytes, and bytes behind a frame's are none's.
func TestDecodeLengths(t *testing.T) {
	wantRefused(t, nil)
	wantRefused(t, []byte{})
	for n := range 20 {
		wantRefused(t, make([]byte, n))
		wantRefused(t, bytes.Repeat([]byte{0xff}, n))
	}
	for _, f := range good() {
		b := plainEncode(f)
		for k := range b {
			wantRefused(t, b[:k])
		}
		for x := range 256 {
			wantRefused(t, append(slices.Clone(b), byte(x)))
		}
		for _, more := range []int{2, 3, 8, 255, 256, 4096, 65528, 65536, 1 << 20} {
			wantRefused(t, append(slices.Clone(b), make([]byte, more)...))
			wantRefused(t, append(slices.Clone(b), data(more)...))
		}
		wantRefused(t, slices.Concat(b, b))
		wantRefused(t, slices.Concat([]byte{0}, b))
		wantRefused(t, slices.Concat(b[:0:0], make([]byte, 8), b))
	}
}

// P17.1: what stands in the room behind bytes doesn't count.
func TestDecodeAheadOfRoom(t *testing.T) {
	for _, f := range good() {
		b := plainEncode(f)
		for _, cut := range []int{0, 1, 4, 7, 8, len(b) - 1} {
			if cut < len(b) {
				wantRefused(t, b[:cut])
			}
		}
		room := slices.Concat(b, data(40))
		wantDecode(t, room[:len(b)])
	}
}

// P17.1: a row longer than what is left is none; nor is one that is shorter, or one of more than 4096 bytes that are all there.
func TestDecodeRows(t *testing.T) {
	for left := range 40 {
		for told := range 300 {
			wantDecode(t, slices.Concat([]byte{5, 0, 0, 0, 1, 0, byte(told / 256), byte(told)}, data(left)))
		}
	}
	for _, told := range []int{4095, 4096, 4097, 4098, 4352, 8192, 32768, 65534, 65535} {
		for _, left := range []int{0, 1, 4094, 4095, 4096, 4097, 4098, told - 1, told, told + 1, told % 4096, 65536} {
			b := slices.Concat([]byte{5, 0, 0, 0, 1, 0, byte(told / 256), byte(told)}, data(left))
			wantDecode(t, b)
			if told > 4096 || left != told {
				wantRefused(t, b)
			}
		}
	}
	wantRefused(t, slices.Concat([]byte{5, 0, 0, 0, 1, 0, 0x10, 0x01}, make([]byte, 4097)))
	wantRefused(t, make([]byte, 1<<22))
}

// P17.1: bytes with each first one: those of kinds from 1 to 8 alone are frames'.
func TestDecodeKinds(t *testing.T) {
	for kind := range 256 {
		for _, f := range good() {
			b := plainEncode(f)
			b[0] = byte(kind)
			wantDecode(t, b)
			if kind < 1 || kind > 8 {
				wantRefused(t, b)
			}
		}
	}
}

// P17.2: each byte of a frame's bytes changed, to each other one: it is another frame's, or none's.
func TestDecodeOtherBytes(t *testing.T) {
	for _, f := range good() {
		b := plainEncode(f)
		for at := range b {
			if at > 40 && at%173 != 0 && at < len(b)-1 {
				continue
			}
			other := slices.Clone(b)
			for range 255 {
				other[at]++
				wantDecode(t, other)
				if g, err := pdu.Decode(other); err == nil && (plainSame(g, f) || pdu.Same(g, f)) {
					t.Fatalf("byte %d of %s doesn't matter", at, brief(f))
				}
			}
		}
	}
}

// P17.1, P17.2: of few values all rows of up to ten bytes, so that Data of none, of one and of two come, and rows that are cut.
func TestDecodeSmallRows(t *testing.T) {
	var fill func(row []byte)
	fill = func(row []byte) {
		wantDecode(t, row)
		values := []byte{0, 1, 2, 9}
		if len(row) >= 8 {
			values = []byte{0, 255}
		}
		if len(row) == 10 {
			return
		}
		for _, v := range values {
			fill(append(row, v))
		}
	}
	fill(make([]byte, 0, 10))
}

// P17.1, P17.2: any bytes that look like frames'.
func TestDecodeAny(t *testing.T) {
	r := dice(2)
	kept := 0
	for range 60000 {
		size := r.IntN(60)
		b := anyBytes(r, max(0, 8+size+[]int{0, 0, 0, 0, 1, -1, -8, 9}[r.IntN(8)]))
		if len(b) > 7 {
			b[0], b[6], b[7] = byte(r.IntN(10)), 0, byte(size)
		}
		if _, ok := plainDecode(b); ok {
			kept++
		}
		wantDecode(t, b)
	}
	if kept < 15000 {
		t.Error("too few are frames':", kept)
	}
}

// P17.2: unlike frames have unlike bytes, none of which is the beginning of another one's.
func TestNoBeginningOfAnother(t *testing.T) {
	var all [][]byte
	for _, kind := range []int{1, 2, 7, 8} {
		for _, n := range []int{0, 1, 256, 1<<32 - 1} {
			for _, code := range []int{0, 1, 255} {
				for _, row := range []string{"", "\x00", "\x01", "\x00\x00", "\x00\x01", "\x00\x00\x00", "\x01\x00\x00\x00\x00\x00\x00\x00"} {
					b, err := pdu.Encode(api.Frame{Kind: kind, N: n, Code: code, Data: []byte(row)})
					if err != nil {
						t.Fatal(err)
					}
					all = append(all, b)
				}
			}
		}
	}
	for i, a := range all {
		for k, b := range all {
			if i != k && bytes.HasPrefix(a, b) {
				t.Fatalf("% x begins with % x", a, b)
			}
		}
	}
}

// P17.1: the bytes of the frames that are in form, in order.
func TestBytes(t *testing.T) {
	if all := pdu.Bytes(); len(all) != 0 {
		t.Errorf("of none: %v", all)
	}
	if all := pdu.Bytes([]api.Frame{}...); len(all) != 0 {
		t.Errorf("of an empty list: %v", all)
	}
	wrong := bad()
	if all := pdu.Bytes(wrong...); len(all) != 0 {
		t.Errorf("of frames that aren't in form: %v", all)
	}
	right := good()
	slices.Reverse(right)
	wantBytes(t, right)
	wantBytes(t, slices.Concat(right, right))
	for i, f := range right {
		wantBytes(t, []api.Frame{f})
		wantBytes(t, []api.Frame{wrong[i], f, wrong[i+1], f, wrong[0]})
		wantBytes(t, []api.Frame{f, wrong[i]})
		wantBytes(t, []api.Frame{wrong[i], f})
	}
	r := dice(3)
	for range 300 {
		var list []api.Frame
		for range r.IntN(9) {
			if r.IntN(2) == 0 {
				list = append(list, wrong[r.IntN(len(wrong))])
			} else {
				list = append(list, right[r.IntN(len(right))])
			}
		}
		wantBytes(t, list)
	}
}

// wantBytes tells where a list's bytes aren't those of the plain make.
func wantBytes(t *testing.T, list []api.Frame) {
	t.Helper()
	var want [][]byte
	for _, f := range list {
		if plainForm(f) {
			want = append(want, plainEncode(f))
		}
	}
	if all := pdu.Bytes(list...); !slices.EqualFunc(all, want, bytes.Equal) {
		t.Fatalf("of %d frames %d rows of bytes, want %d", len(list), len(all), len(want))
	}
}

// P17.1: frames are the same where each field is, in form or not.
func TestSame(t *testing.T) {
	all := append(good(), bad()...)
	for _, kind := range []int{0, 1, 2, 257, -1} {
		for _, n := range []int{0, 1, 1 << 32, -1} {
			for _, code := range []int{0, 1, 256, -1} {
				for _, row := range []string{"", "a", "b", "ab", "a\x00", "\x00"} {
					all = append(all, api.Frame{Kind: kind, N: n, Code: code, Data: []byte(row)})
				}
			}
		}
	}
	for _, a := range all {
		for _, b := range all {
			if pdu.Same(a, b) != plainSame(a, b) {
				t.Fatalf("%s, %s: %v", brief(a), brief(b), pdu.Same(a, b))
			}
		}
	}
}

// P17.1: frames that differ in one field, or in one byte, aren't the same, either way about.
func TestSameHangsOnEachField(t *testing.T) {
	f := api.Frame{Kind: 5, N: 6, Code: 7, Data: data(300)}
	differ := func(g api.Frame) {
		t.Helper()
		if pdu.Same(f, g) || pdu.Same(g, f) {
			t.Errorf("the same: %s", brief(g))
		}
	}
	for bit := range 64 {
		differ(api.Frame{Kind: f.Kind ^ 1<<bit, N: f.N, Code: f.Code, Data: f.Data})
		differ(api.Frame{Kind: f.Kind, N: f.N ^ 1<<bit, Code: f.Code, Data: f.Data})
		differ(api.Frame{Kind: f.Kind, N: f.N, Code: f.Code ^ 1<<bit, Data: f.Data})
	}
	for at := range f.Data {
		other := slices.Clone(f.Data)
		other[at] ^= 0x80
		differ(api.Frame{Kind: f.Kind, N: f.N, Code: f.Code, Data: other})
		differ(api.Frame{Kind: f.Kind, N: f.N, Code: f.Code, Data: f.Data[:at]})
	}
	differ(api.Frame{Kind: f.Kind, N: f.N, Code: f.Code, Data: append(slices.Clone(f.Data), 0)})
	if !pdu.Same(f, f) || !pdu.Same(f, api.Frame{Kind: 5, N: 6, Code: 7, Data: data(300)}) {
		t.Error("not the same")
	}
}
