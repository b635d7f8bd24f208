package mac_test

import (
	"bytes"
	"crypto/hmac"
	"crypto/sha256"
	"encoding/binary"
	"encoding/hex"
	"iter"
	"math"
	"math/rand/v2"
	"slices"
	"strings"
	"testing"
	"time"

	"citadel/api"
	"citadel/mac"
)

const maxBlocks = 4096

// The chapter's words, made plainly, without a call of the program.

func plainPiece(key []byte) []byte {
	if len(key) > 64 {
		sum := sha256.Sum256(key)
		key = sum[:]
	}
	return append(slices.Clone(key), make([]byte, 64-len(key))...)
}

func plainTag(key []byte, text []byte) api.Sum {
	inner, outer := plainPiece(key), plainPiece(key)
	for i := range 64 {
		inner[i] ^= 0x36
		outer[i] ^= 0x5c
	}
	sum := sha256.Sum256(append(inner, text...))
	return sha256.Sum256(append(outer, sum[:]...))
}

// plainStream is the first n blocks of a stream.
func plainStream(key []byte, label string, n int) []api.Sum {
	var blocks []api.Sum
	for i := range n {
		text := binary.BigEndian.AppendUint32(nil, uint32(i+1))
		text = append(text, label...)
		blocks = append(blocks, plainTag(key, append(text, 0)))
	}
	return blocks
}

func plainDerived(key []byte, label string, n int) []byte {
	var derived []byte
	for _, block := range plainStream(key, label, (n+31)/32) {
		derived = append(derived, block[:]...)
	}
	return derived[:n]
}

// anotherMake is the tag by another make of the same definition.
func anotherMake(key, text []byte) api.Sum {
	hash := hmac.New(sha256.New, key)
	hash.Write(text)
	return api.Sum(hash.Sum(nil))
}

func dice() *rand.Rand { return rand.New(rand.NewPCG(5, 1)) }

func anyBytes(r *rand.Rand, n int) []byte {
	b := make([]byte, n)
	for i := range b {
		b[i] = byte(r.Uint32())
	}
	return b
}

// take is the first n of a stream, by a loop that is left.
func take(stream iter.Seq[api.Sum], n int) []api.Sum {
	var blocks []api.Sum
	for block := range stream {
		blocks = append(blocks, block)
		if len(blocks) == n {
			break
		}
	}
	return blocks
}

// keySizes are the lengths around which a key is filled, or replaced by its digest.
var keySizes = []int{0, 1, 2, 31, 32, 33, 62, 63, 64, 65, 66, 127, 128, 129, 1000}

// textSizes are the lengths around which a text, behind a piece, needs a piece more.
var textSizes = []int{0, 1, 31, 32, 54, 55, 56, 57, 63, 64, 65, 119, 120, 127, 128, 129, 500}

// labels are of none, of few and of many bytes, of noughts, and of bytes that are no text.
var labels = []string{"", "a", "unit", "\x00", "unit\x00", "\x00\x00\x00\x01", "\xff\xfe", strings.Repeat("label", 9), strings.Repeat("x", 500)}

// deriveSizes are the edges of what may be derived, and of the blocks it comes of.
var deriveSizes = []int{1, 2, 31, 32, 33, 63, 64, 65, 80, 96, 97, 500, 991, 992, 993, 1023, 1024}

// P5.1: the chapter's example, and the published ones.
func TestPublished(t *testing.T) {
	for _, x := range []struct{ key, text, want string }{
		{"Jefe", "what do ya want for nothing?", "5bdcc146bf60754e6a042426089575c75a003f089d2739839dec58b964ec3843"},
		{strings.Repeat("\x0b", 20), "Hi There", "b0344c61d8db38535ca8afceaf0bf12b881dc200c9833da726e9376c2e32cff7"},
		{strings.Repeat("\xaa", 20), strings.Repeat("\xdd", 50), "773ea91e36800e46854db8ebd09181a72959098b3ef8c122d9635514ced565fe"},
		{"\x01\x02\x03\x04\x05\x06\x07\x08\x09\x0a\x0b\x0c\x0d\x0e\x0f\x10\x11\x12\x13\x14\x15\x16\x17\x18\x19", strings.Repeat("\xcd", 50), "82558a389a443c0ea4cc819899f2083a85f0faa3e578f8077a2e3ff46729665b"},
		{strings.Repeat("\xaa", 131), "Test Using Larger Than Block-Size Key - Hash Key First", "60e431591ee0b67f0d8a26aacbf5b77f8e0bc6213728c5140546040f0ee37f54"},
		{strings.Repeat("\xaa", 131), "This is a test using a larger than block-size key and a larger than block-size data. The key needs to be hashed before being used by the HMAC algorithm.", "9b09ffa71b942fcb27635fbcd5b0e944bfdc63644f0713938a7f51535c3a35e2"},
		{"", "", "b613679a0814d9ec772f95d778c35fc5ff1697c493715653c6c712144292c5ad"},
	} {
		tag := mac.Tag([]byte(x.key), []byte(x.text))
		if hex.EncodeToString(tag[:]) != x.want {
			t.Errorf("Tag(%q, %q): %x, want %s", x.key, x.text, tag, x.want)
		}
	}
}

// P5.1: pieces of keys of all lengths around the edges.
func TestPiece(t *testing.T) {
	r := dice()
	for _, n := range keySizes {
		key := anyBytes(r, n)
		if p := mac.Piece(key); !bytes.Equal(p[:], plainPiece(key)) {
			t.Errorf("Piece, %d bytes: %x, want %x", n, p, plainPiece(key))
		}
	}
	for i, none := range [][]byte{nil, {}, make([]byte, 0, 64)} {
		if p := mac.Piece(none); p != [64]byte{} {
			t.Errorf("no key, %d: %x", i, p)
		}
	}
	for n := range 65 {
		key := bytes.Repeat([]byte{0xff}, n)
		p := mac.Piece(key)
		if !bytes.Equal(p[:n], key) || !bytes.Equal(p[n:], make([]byte, 64-n)) {
			t.Errorf("Piece, %d bytes of ff: %x", n, p)
		}
	}
	sum := sha256.Sum256(make([]byte, 65))
	if p := mac.Piece(make([]byte, 65)); [32]byte(p[:32]) != sum || [32]byte(p[32:]) != [32]byte{} {
		t.Errorf("Piece, 65 noughts: %x", p)
	}
}

// P5.1: tags of keys and texts of all lengths around the edges.
func TestTag(t *testing.T) {
	r := dice()
	for _, n := range keySizes {
		for _, m := range textSizes {
			key, text := anyBytes(r, n), anyBytes(r, m)
			want := plainTag(key, text)
			if tag := mac.Tag(key, text); tag != want || tag != anotherMake(key, text) {
				t.Errorf("Tag, a key of %d bytes, a text of %d: %x, want %x, %x", n, m, tag, want, anotherMake(key, text))
			}
		}
	}
	for n := range 300 {
		key, text := anyBytes(r, n), anyBytes(r, 299-n)
		if tag := mac.Tag(key, text); tag != anotherMake(key, text) {
			t.Errorf("Tag, a key of %d bytes: %x, want %x", n, tag, anotherMake(key, text))
		}
	}
	key, text := anyBytes(r, 1<<17), anyBytes(r, 1<<20+1)
	if tag := mac.Tag(key, text); tag != anotherMake(key, text) {
		t.Errorf("Tag, a great text: %x, want %x", tag, anotherMake(key, text))
	}
}

// P5.1: no part at all, and parts of nothing, are the text of no bytes, with any key; no key is one of no bytes.
func TestTagOfNothing(t *testing.T) {
	r := dice()
	for _, n := range keySizes {
		key := anyBytes(r, n)
		want := plainTag(key, nil)
		if tag := mac.Tag(key); tag != want {
			t.Errorf("a key of %d bytes, no part: %x, want %x", n, tag, want)
		}
		for i, parts := range [][][]byte{nil, {}, {nil}, {{}}, {nil, nil}, {nil, {}, nil}, make([][]byte, 0, 3), make([][]byte, 70), {make([]byte, 0, 9)}} {
			if tag := mac.Tag(key, parts...); tag != want {
				t.Errorf("a key of %d bytes, %d: %x, want %x", n, i, tag, want)
			}
		}
	}
	text := anyBytes(r, 70)
	for i, none := range [][]byte{nil, {}, make([]byte, 0, 64)} {
		if tag := mac.Tag(none, text); tag != plainTag(nil, text) {
			t.Errorf("no key, %d: %x", i, tag)
		}
	}
}

// P5.1: a bit changed anywhere, in the key or in the text, makes another tag.
func TestTagHangsOnEachBit(t *testing.T) {
	r := dice()
	key, text := anyBytes(r, 20), anyBytes(r, 20)
	tag := mac.Tag(key, text)
	for bit := range 160 {
		mark := byte(1) << (bit % 8)
		key[bit/8] ^= mark
		if mac.Tag(key, text) == tag {
			t.Errorf("bit %d of the key", bit)
		}
		key[bit/8] ^= mark
		text[bit/8] ^= mark
		if mac.Tag(key, text) == tag {
			t.Errorf("bit %d of the text", bit)
		}
		text[bit/8] ^= mark
	}
}

// P5.1: rows of no bytes, nil or not, are equal, and none equals one of some bytes, noughts included.
func TestEqualOfNothing(t *testing.T) {
	none := [][]byte{nil, {}, make([]byte, 0, 9)}
	for i, a := range none {
		for k, b := range none {
			if !mac.Equal(a, b) {
				t.Errorf("%d, %d: not equal", i, k)
			}
		}
		for _, n := range []int{1, 2, 32, 255, 256, 257, 65536, 65537} {
			if mac.Equal(a, make([]byte, n)) || mac.Equal(make([]byte, n), a) {
				t.Errorf("%d: equal to %d noughts", i, n)
			}
		}
	}
}

// P5.1: rows are equal to themselves and to their copies, not to those that differ at any place by any bit.
func TestEqualAtEachPlace(t *testing.T) {
	r := dice()
	for _, n := range []int{1, 2, 3, 7, 8, 9, 31, 32, 33, 64, 100, 257} {
		a := anyBytes(r, n)
		b := slices.Clone(a)
		if !mac.Equal(a, a) || !mac.Equal(a, b) {
			t.Errorf("%d bytes: not equal", n)
		}
		for bit := range 8 * n {
			b[bit/8] ^= 1 << (bit % 8)
			if mac.Equal(a, b) || mac.Equal(b, a) {
				t.Errorf("%d bytes: equal, but for bit %d", n, bit)
			}
			b[bit/8] ^= 1 << (bit % 8)
		}
	}
}

// P5.1: several differences don't make one another good.
func TestEqualOfManyDifferences(t *testing.T) {
	r := dice()
	a := anyBytes(r, 40)
	for first := range a {
		for second := range first {
			for _, change := range []byte{1, 0x80, 0xff} {
				b := slices.Clone(a)
				b[first] ^= change
				b[second] ^= change
				if mac.Equal(a, b) {
					t.Errorf("equal, but for %d and %d", first, second)
				}
				b[first], b[second] = a[first]+change, a[second]-change
				if mac.Equal(a, b) {
					t.Errorf("equal, but for sums at %d and %d", first, second)
				}
			}
		}
	}
	if b := slices.Clone(a); mac.Equal(a, append(b[1:], b[0])) {
		t.Error("equal in another order")
	}
}

// P5.1: rows of unlike lengths aren't equal, also where one is the other's beginning, or has noughts behind it.
func TestEqualOfUnlikeLengths(t *testing.T) {
	r := dice()
	a := anyBytes(r, 600)
	for n := range a {
		for _, more := range []int{1, 2, 255, 256, 257, 512} {
			if n+more <= len(a) && (mac.Equal(a[:n], a[:n+more]) || mac.Equal(a[:n+more], a[:n])) {
				t.Errorf("%d bytes, and %d more: equal", n, more)
			}
			noughts := append(slices.Clone(a[:n]), make([]byte, more)...)
			if mac.Equal(a[:n], noughts) || mac.Equal(noughts, a[:n]) {
				t.Errorf("%d bytes, and %d noughts: equal", n, more)
			}
		}
	}
	if mac.Equal(make([]byte, 1<<16), make([]byte, 1<<17)) || mac.Equal([]byte{1}, []byte{2, 1}) || mac.Equal([]byte{0, 1}, []byte{1}) {
		t.Error("equal")
	}
}

// fastest is the least time that each of the pairs took, of many runs by turns.
func fastest(pairs [][2][]byte) []time.Duration {
	least := slices.Repeat([]time.Duration{math.MaxInt64}, len(pairs))
	for range 25 {
		for i, pair := range pairs {
			start := time.Now()
			mac.Equal(pair[0], pair[1])
			least[i] = min(least[i], time.Since(start))
		}
	}
	return least
}

// P5.1: all bytes are looked at, wherever they differ: a difference far ahead takes no small part of the time that none takes.
func TestEqualLooksAtAllBytes(t *testing.T) {
	const size = 1 << 18
	a := anyBytes(dice(), size)
	pairs := [][2][]byte{{a, slices.Clone(a)}}
	for _, at := range []int{0, 1, size / 64, size / 32} {
		b := slices.Clone(a)
		b[at] ^= 1
		pairs = append(pairs, [2][]byte{a, b}, [2][]byte{b, a})
	}
	for _, n := range []int{0, 1, size / 32, size - 1} {
		pairs = append(pairs, [2][]byte{a, a[:n]}, [2][]byte{a[:n], a})
	}
	took := fastest(pairs)
	for i, one := range took[1:] {
		// Left early, it takes a thirtieth at most: an eighth leaves room for a machine that is loaded.
		if one < took[0]/8 {
			t.Errorf("pair %d took %v, equal ones take %v", i+1, one, took[0])
		}
	}
}

// P5.1: the first blocks of streams of keys of all lengths around the edges, with all labels.
func TestStream(t *testing.T) {
	r := dice()
	for _, n := range keySizes {
		key := anyBytes(r, n)
		for _, label := range labels {
			want := plainStream(key, label, 5)
			if blocks := take(mac.Stream(key, label), 5); !slices.Equal(blocks, want) {
				t.Errorf("a key of %d bytes, label %q: %x, want %x", n, label, blocks, want)
			}
		}
	}
	for i, none := range [][]byte{nil, {}, make([]byte, 0, 64)} {
		if blocks := take(mac.Stream(none, ""), 3); !slices.Equal(blocks, plainStream(nil, "", 3)) {
			t.Errorf("no key, %d: %x", i, blocks)
		}
	}
}

// P5.1: a block is the tag of its number, the label and a nought.
func TestStreamIsMadeOfTags(t *testing.T) {
	key := []byte("master")
	for _, label := range labels {
		i := 0
		for block := range mac.Stream(key, label) {
			i++
			number := binary.BigEndian.AppendUint32(nil, uint32(i))
			if tag := mac.Tag(key, number, []byte(label), []byte{0}); tag != block {
				t.Errorf("label %q, block %d: %x, want %x", label, i, block, tag)
			}
			if i == 300 {
				break
			}
		}
	}
}

// P5.1: a stream ends behind 4096 blocks, each of which is the right one, with any key and label, and so it does when it is run again.
func TestStreamToItsEnd(t *testing.T) {
	r := dice()
	for _, n := range []int{0, 20, 64, 65} {
		key := anyBytes(r, n)
		for _, label := range []string{"", "unit"} {
			want := plainStream(key, label, maxBlocks)
			stream := mac.Stream(key, label)
			for run := range 2 {
				if blocks := slices.Collect(stream); !slices.Equal(blocks, want) {
					t.Errorf("a key of %d bytes, label %q, run %d: %d blocks", n, label, run, len(blocks))
				}
			}
		}
	}
}

// P5.1: a stream that is left at any block ends there; run again it begins anew.
func TestStreamLeftAndRunAgain(t *testing.T) {
	key := []byte("key")
	want := plainStream(key, "left", 300)
	stream := mac.Stream(key, "left")
	for _, n := range []int{1, 2, 3, 31, 255, 256, 257, 300} {
		if blocks := take(stream, n); !slices.Equal(blocks, want[:n]) {
			t.Errorf("left behind %d blocks: %x", n, blocks)
		}
	}
	calls := 0
	stream(func(api.Sum) bool { calls++; return calls < 7 })
	if calls != 7 {
		t.Errorf("left behind 7 calls: %d", calls)
	}
	last := maxBlocks
	for range stream {
		if last--; last == 0 {
			break
		}
	}
	if last != 0 {
		t.Errorf("%d blocks too few", last)
	}
}

// P5.1: a stream within itself, and two runs of one step by step, know nothing of one another.
func TestStreamWithinItself(t *testing.T) {
	key := []byte("key")
	want := plainStream(key, "l", 6)
	stream := mac.Stream(key, "l")
	outer := 0
	for block := range stream {
		if inner := take(stream, 6); block != want[outer] || !slices.Equal(inner, want) {
			t.Errorf("within block %d: %x, %x", outer, block, inner)
		}
		if outer++; outer == len(want) {
			break
		}
	}
	one, stopOne := iter.Pull(stream)
	two, stopTwo := iter.Pull(stream)
	defer stopOne()
	defer stopTwo()
	for i := range want {
		if block, ok := one(); block != want[i] || !ok {
			t.Errorf("one, block %d: %x, %v", i, block, ok)
		}
		if i%2 == 0 {
			continue
		}
		if block, ok := two(); block != want[i/2] || !ok {
			t.Errorf("two, block %d: %x, %v", i/2, block, ok)
		}
	}
}

// P5.1: other labels, and other keys, have other streams.
func TestStreamsDiffer(t *testing.T) {
	seen := map[api.Sum]bool{}
	for _, key := range []string{"k", "kk", "l"} {
		for _, label := range labels {
			for _, block := range take(mac.Stream([]byte(key), label), 4) {
				if seen[block] {
					t.Errorf("key %q, label %q: %x again", key, label, block)
				}
				seen[block] = true
			}
		}
	}
}

// P5.1: keys of all lengths that may be derived.
func TestDerive(t *testing.T) {
	key := []byte("master")
	whole := plainDerived(key, "unit", 1024)
	for n := 1; n <= 1024; n++ {
		if d := mac.Derive(key, "unit", n); !bytes.Equal(d, whole[:n]) {
			t.Errorf("Derive, %d bytes: %x, want %x", n, d, whole[:n])
		}
	}
	r := dice()
	for _, size := range keySizes {
		key := anyBytes(r, size)
		for _, label := range labels {
			for _, n := range []int{1, 31, 32, 33, 64, 80} {
				if d := mac.Derive(key, label, n); !bytes.Equal(d, plainDerived(key, label, n)) {
					t.Errorf("Derive, a key of %d bytes, label %q, %d bytes: %x", size, label, n, d)
				}
			}
		}
	}
	if d := mac.Derive(nil, "", 40); !bytes.Equal(d, mac.Derive([]byte{}, "", 40)) || !bytes.Equal(d, plainDerived(nil, "", 40)) {
		t.Errorf("no key: %x", d)
	}
}

// P5.1: out of range, nothing is derived.
func TestDeriveOutOfRange(t *testing.T) {
	for _, key := range [][]byte{nil, {}, []byte("master"), make([]byte, 100)} {
		for _, label := range labels {
			for _, n := range []int{0, -1, -2, -32, -1024, -1025, math.MinInt32, math.MinInt, math.MinInt + 1, math.MinInt + 32, 1025, 1026, 1056, 2048, maxBlocks * 32, maxBlocks*32 + 1, 1 << 31, 1 << 32, 1<<32 + 32, 1<<62 + 1, math.MaxInt - 1, math.MaxInt} {
				if d := mac.Derive(key, label, n); len(d) != 0 {
					t.Errorf("Derive(%x, %q, %d): %x", key, label, n, d)
				}
			}
		}
	}
}

// P5.2: a text parted into two at every place, with parts of nothing between, has the same tag.
func TestPartedAtEveryPlace(t *testing.T) {
	r := dice()
	for _, size := range []int{0, 1, 63, 64, 65, 128} {
		key := anyBytes(r, size)
		for _, n := range textSizes[:len(textSizes)-1] {
			text := anyBytes(r, n)
			want := anotherMake(key, text)
			for at := range n + 1 {
				if tag := mac.Tag(key, text[:at], text[at:]); tag != want {
					t.Errorf("a key of %d bytes, a text of %d, parted at %d: %x, want %x", size, n, at, tag, want)
				}
				if tag := mac.Tag(key, nil, text[:at], []byte{}, nil, text[at:], nil); tag != want {
					t.Errorf("a key of %d bytes, a text of %d, parted at %d, with nothing between: %x, want %x", size, n, at, tag, want)
				}
			}
		}
	}
}

// P5.2: texts parted into three at every two places, into bytes, and into any parts.
func TestPartedInMany(t *testing.T) {
	r := dice()
	key, text := anyBytes(r, 30), anyBytes(r, 70)
	want := anotherMake(key, text)
	for a := range len(text) + 1 {
		for b := a; b <= len(text); b++ {
			if tag := mac.Tag(key, text[:a], text[a:b], text[b:]); tag != want {
				t.Errorf("parted at %d and %d: %x, want %x", a, b, tag, want)
			}
		}
	}
	for n := range 150 {
		text := anyBytes(r, n*7)
		want := anotherMake(key, text)
		if tag := mac.Tag(key, slices.Collect(slices.Chunk(text, 1))...); tag != want {
			t.Errorf("%d bytes, one by one: %x, want %x", len(text), tag, want)
		}
		var parts [][]byte
		for rest := text; len(rest) > 0; {
			cut := min(r.IntN(150), len(rest))
			parts = append(parts, rest[:cut])
			rest = rest[cut:]
		}
		if tag := mac.Tag(key, parts...); tag != want {
			t.Errorf("%d bytes in %d parts: %x, want %x", len(text), len(parts), tag, want)
		}
	}
}

// P5.2: parts that share memory, with one another and with the key, are told one behind the other all the same.
func TestPartsThatShare(t *testing.T) {
	text := anyBytes(dice(), 150)
	for _, n := range []int{0, 10, 64, 65, 150} {
		want := anotherMake(text[:n], slices.Concat(text, text, text[10:90], text[:70]))
		if tag := mac.Tag(text[:n], text, text, text[10:90], text[:70]); tag != want {
			t.Errorf("a key of %d bytes: %x, want %x", n, tag, want)
		}
	}
}

// P5.2: a key with noughts behind it, up to 64 bytes, has the same piece, tags, streams and derived keys.
func TestKeysWithNoughtsBehind(t *testing.T) {
	r := dice()
	text := anyBytes(r, 50)
	for n := range 65 {
		key := anyBytes(r, n)
		piece, tag := mac.Piece(key), mac.Tag(key, text)
		blocks, derived := take(mac.Stream(key, "l"), 2), mac.Derive(key, "l", 40)
		for more := range 65 - n {
			longer := append(slices.Clone(key), make([]byte, more)...)
			if mac.Piece(longer) != piece || mac.Tag(longer, text) != tag {
				t.Errorf("%d bytes and %d noughts: another piece or tag", n, more)
			}
			if more%8 == 0 && (!slices.Equal(take(mac.Stream(longer, "l"), 2), blocks) || !bytes.Equal(mac.Derive(longer, "l", 40), derived)) {
				t.Errorf("%d bytes and %d noughts: another stream or key", n, more)
			}
		}
		for _, more := range []int{65 - n, 66 - n, 128 - n} {
			longer := append(slices.Clone(key), make([]byte, more)...)
			if mac.Tag(longer, text) == tag {
				t.Errorf("%d bytes and %d noughts, beyond 64: the same tag", n, more)
			}
		}
	}
}

// P5.2: a key's piece has the key's own tags, and so has a long key's digest.
func TestPieceHasTheSameTags(t *testing.T) {
	r := dice()
	text := anyBytes(r, 50)
	for _, n := range keySizes {
		key := anyBytes(r, n)
		piece := mac.Piece(key)
		if mac.Tag(piece[:], text) != mac.Tag(key, text) || mac.Piece(piece[:]) != piece {
			t.Errorf("%d bytes: another tag or piece", n)
		}
		sum := sha256.Sum256(key)
		if same := mac.Tag(sum[:], text) == mac.Tag(key, text); same != (n > 64) {
			t.Errorf("%d bytes: the digest has the same tags: %v", n, same)
		}
	}
}

// P5.3: what is derived of less bytes is the beginning of what is derived of more.
func TestDerivedLessIsTheBeginning(t *testing.T) {
	r := dice()
	for _, size := range []int{0, 1, 64, 65, 128} {
		key := anyBytes(r, size)
		for _, label := range labels {
			whole := mac.Derive(key, label, 1024)
			for _, n := range deriveSizes {
				if d := mac.Derive(key, label, n); len(d) != n || !bytes.Equal(d, whole[:n]) {
					t.Errorf("a key of %d bytes, label %q, %d bytes: %x", size, label, n, d)
				}
			}
		}
	}
	for less := 1; less < 100; less++ {
		short := mac.Derive([]byte("k"), "l", less)
		for more := less; more <= 100; more++ {
			if !bytes.HasPrefix(mac.Derive([]byte("k"), "l", more), short) {
				t.Errorf("%d bytes aren't the beginning of %d", less, more)
			}
		}
	}
}

// P5.4: keys, parts, the list of them, rows that are compared, and all room behind them, stay as they are.
func TestNothingHandedInIsChanged(t *testing.T) {
	r := dice()
	for _, n := range keySizes {
		room := anyBytes(r, n+200)
		before := slices.Clone(room)
		key := room[:n]
		mac.Piece(key)
		mac.Tag(key)
		mac.Tag(key, room[n:n+60], room[n+60:n+100])
		mac.Equal(key, room[1:n+1])
		mac.Equal(key, room[n:])
		take(mac.Stream(key, "label"), 3)
		mac.Derive(key, "label", 100)
		list := [][]byte{room[n : n+3], nil, room[:n], room[1:2], {}, room[3:9]}
		mac.Tag(key, list[:2]...)
		mac.Tag(key, list[:0]...)
		if !bytes.Equal(room, before) {
			t.Errorf("a key of %d bytes, a part, or its room, was changed", n)
		}
		if !bytes.Equal(list[0], before[n:n+3]) || list[1] != nil || !bytes.Equal(list[2], before[:n]) || !bytes.Equal(list[3], before[1:2]) || list[4] == nil || !bytes.Equal(list[5], before[3:9]) {
			t.Errorf("a list of parts, a key of %d bytes: it, or its room, was changed", n)
		}
	}
}

// P5.4: a stream has the key that was handed in, whatever becomes of it behind the call, between runs and within one.
func TestStreamKeepsNoKey(t *testing.T) {
	r := dice()
	for _, n := range keySizes {
		room := anyBytes(r, n+64)
		want := plainStream(room[:n], "l", 4)
		stream := mac.Stream(room[:n], "l")
		clear(room)
		if blocks := take(stream, 4); !slices.Equal(blocks, want) {
			t.Errorf("a key of %d bytes, changed behind the call: %x, want %x", n, blocks, want)
		}
		i := 0
		for block := range stream {
			if block != want[i] {
				t.Errorf("a key of %d bytes, changed within block %d: %x, want %x", n, i, block, want[i])
			}
			if i++; i == len(want) {
				break
			}
			copy(room, anyBytes(r, len(room)))
		}
	}
}

// P5.4: what is answered is new memory: changing it changes no argument and no other answer.
func TestAnswersAreNew(t *testing.T) {
	r := dice()
	for _, n := range deriveSizes {
		key := anyBytes(r, 64)
		before := slices.Clone(key)
		want := plainDerived(key, "l", n)
		first, second := mac.Derive(key, "l", n), mac.Derive(key, "l", n)
		first = first[:cap(first)]
		for i := range first {
			first[i] ^= 0xff
		}
		if !bytes.Equal(second, want) || !bytes.Equal(mac.Derive(key, "l", n), want) {
			t.Errorf("%d bytes: another key was changed", n)
		}
		piece := mac.Piece(key)
		clear(piece[:])
		if !bytes.Equal(key, before) || mac.Piece(key) != [64]byte(before) {
			t.Errorf("%d bytes: the key was changed", n)
		}
	}
	i, want := 0, plainStream([]byte("k"), "l", 4)
	for block := range mac.Stream([]byte("k"), "l") {
		if block != want[i] {
			t.Errorf("block %d: %x, want %x", i, block, want[i])
		}
		if i++; i == len(want) {
			break
		}
		clear(block[:])
	}
}

// What a call answers hangs on its arguments alone, not on calls ahead of it.
func TestCallsKeepNothing(t *testing.T) {
	r := dice()
	key, text := anyBytes(r, 33), anyBytes(r, 100)
	tag, derived := anotherMake(key, text), plainDerived(key, "l", 50)
	for _, n := range keySizes {
		other := anyBytes(r, n)
		mac.Piece(other)
		mac.Tag(other, text, other)
		mac.Equal(other, key)
		take(mac.Stream(other, "other"), 2)
		mac.Derive(other, "other", n)
		if mac.Tag(key, text) != tag || !bytes.Equal(mac.Derive(key, "l", 50), derived) || mac.Equal(key, text) {
			t.Errorf("behind a key of %d bytes: another answer", n)
		}
	}
}
