package pdu_test

import (
	"bytes"
	"slices"
	"testing"

	"citadel/api"
	"citadel/pdu"
)

// P17.3: what Encode is handed isn't changed, nor kept, nor does its answer share memory with it or with another one.
func TestEncodeIsNew(t *testing.T) {
	for _, f := range good() {
		want := plainEncode(f)
		given, room := roomy(f)
		ahead := bytes.Clone(room)
		one, err := pdu.Encode(given)
		two, err2 := pdu.Encode(given)
		if err != nil || err2 != nil {
			t.Fatal(err, err2)
		}
		spoil(one)
		if !bytes.Equal(room, ahead) || !bytes.Equal(two, want) {
			t.Fatalf("%s: an answer shares memory", brief(f))
		}
		spoil(room)
		if !bytes.Equal(two, want) {
			t.Fatalf("%s: what is handed in is kept", brief(f))
		}
		if three, err := pdu.Encode(f); err != nil || !bytes.Equal(three, want) || !bytes.Equal(two, want) {
			t.Fatalf("%s: a later answer is another one: %v", brief(f), err)
		}
	}
}

// P17.3: what Decode is handed isn't changed, nor kept, nor does its answer share memory with it or with another one.
func TestDecodeIsNew(t *testing.T) {
	for _, f := range good() {
		b := plainEncode(f)
		room := slices.Concat(b, bytes.Repeat([]byte{0xaa}, 300))
		ahead := bytes.Clone(room)
		given := room[:len(b)]
		one, err := pdu.Decode(given)
		two, err2 := pdu.Decode(given)
		if err != nil || err2 != nil || !bytes.Equal(room, ahead) {
			t.Fatalf("%s: %v, %v, or changed", brief(f), err, err2)
		}
		spoil(one.Data)
		if !bytes.Equal(room, ahead) || !plainSame(two, f) {
			t.Fatalf("%s: an answer shares memory", brief(f))
		}
		spoil(room)
		if !plainSame(two, f) {
			t.Fatalf("%s: what is handed in is kept", brief(f))
		}
		if three, err := pdu.Decode(b); err != nil || !plainSame(three, f) {
			t.Fatalf("%s: a later answer is another one: %v", brief(f), err)
		}
	}
}

// P17.3: what Reply is handed isn't changed, nor kept, nor does its answer share memory with it or with another one.
func TestReplyIsNew(t *testing.T) {
	for _, size := range []int{0, 1, 16, 255, 256, 4096, 4097} {
		want := api.Frame{Kind: 6, N: 3, Data: data(size)}
		given, room := roomy(want)
		ahead := bytes.Clone(room)
		one, two := pdu.Reply(3, given.Data, nil), pdu.Reply(3, given.Data, nil)
		spoil(one.Data)
		if !bytes.Equal(room, ahead) || !plainSame(two, want) {
			t.Fatalf("%d bytes: an answer shares memory", size)
		}
		spoil(room)
		if !plainSame(two, want) {
			t.Fatalf("%d bytes: what is handed in is kept", size)
		}
		if refused := pdu.Reply(3, given.Data, api.ErrBusy); refused.Data != nil {
			t.Fatalf("%d bytes: %s", size, brief(refused))
		}
	}
}

// P17.3: what Bytes is handed isn't changed, nor kept, and no row of its answers shares memory with it or with another one.
func TestBytesAreNew(t *testing.T) {
	right, wrong := good(), bad()
	var list []api.Frame
	var rooms, aheads, want [][]byte
	for i, f := range right {
		given, room := roomy(f)
		list = append(list, given, wrong[i], given)
		rooms, aheads = append(rooms, room), append(aheads, bytes.Clone(room))
		want = append(want, plainEncode(f), plainEncode(f))
	}
	kept := slices.Clone(list)
	one, two := pdu.Bytes(list...), pdu.Bytes(list...)
	if !slices.EqualFunc(list, kept, plainSame) || !slices.EqualFunc(rooms, aheads, bytes.Equal) {
		t.Fatal("what is handed in is changed")
	}
	for i := range one {
		spoil(one[i])
		if !slices.EqualFunc(one[i+1:], want[i+1:], bytes.Equal) || !slices.EqualFunc(rooms, aheads, bytes.Equal) {
			t.Fatalf("row %d shares memory", i)
		}
	}
	clear(one[:cap(one)])
	for i := range rooms {
		spoil(rooms[i])
	}
	clear(list)
	if !slices.EqualFunc(two, want, bytes.Equal) {
		t.Fatal("another answer is changed, or what is handed in is kept")
	}
	for i := range two {
		_ = append(two[i], 1, 2, 3)
	}
	if !slices.EqualFunc(two, want, bytes.Equal) {
		t.Fatal("room behind a row is another row's")
	}
}

// P17.3: refused calls, and those that answer no bytes, change nothing either.
func TestOthersChangeNothing(t *testing.T) {
	for _, f := range append(good(), bad()...) {
		given, room := roomy(f)
		ahead := bytes.Clone(room)
		pdu.Encode(given)
		pdu.Bytes(given, given)
		pdu.Same(given, f)
		pdu.Same(f, given)
		pdu.Decode(given.Data)
		pdu.Decode(room)
		pdu.Reply(1, given.Data, api.ErrTamper)
		if !bytes.Equal(room, ahead) {
			t.Fatalf("%s: changed", brief(f))
		}
	}
	list := bad()
	kept := slices.Clone(list)
	pdu.Bytes(list...)
	if !slices.EqualFunc(list, kept, plainSame) {
		t.Fatal("a list is changed")
	}
}

// P17.1, rule 8: what a call answers doesn't hang on the calls ahead of it.
func TestNothingIsKept(t *testing.T) {
	f := api.Frame{Kind: 5, N: 6, Code: 7, Data: []byte("data")}
	b := plainEncode(f)
	for _, other := range append(good(), bad()...) {
		pdu.Encode(other)
		pdu.Decode(other.Data)
		pdu.Bytes(other, other)
		pdu.Reject(other.Code)
		pdu.Reply(other.N, other.Data, api.Errno(other.Code))
		pdu.Same(other, f)
		if made, err := pdu.Encode(f); err != nil || !bytes.Equal(made, b) {
			t.Fatalf("behind %s: % x, %v", brief(other), made, err)
		}
		if g, err := pdu.Decode(b); err != nil || !plainSame(g, f) {
			t.Fatalf("behind %s: %s, %v", brief(other), brief(g), err)
		}
		if pdu.Status(nil) != 0 || pdu.Status(api.ErrBusy) != 8 || !plainSame(pdu.Reject(10), api.Frame{Kind: 7, Code: 10}) {
			t.Fatalf("behind %s: another answer", brief(other))
		}
	}
}
