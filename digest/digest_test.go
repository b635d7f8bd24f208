package digest_test

import (
	"bytes"
	"crypto/sha256"
	"encoding/binary"
	"encoding/hex"
	"iter"
	"math"
	"math/big"
	"math/rand/v2"
	"slices"
	"strings"
	"testing"

	"citadel/api"
	"citadel/digest"
)

// The chapter's words, made plainly on rows of bits and on great numbers, without a call of the package.

// primes are the first n primes.
func primes(n int) []int64 {
	var found []int64
	for p := int64(2); len(found) < n; p++ {
		if big.NewInt(p).ProbablyPrime(0) {
			found = append(found, p)
		}
	}
	return found
}

// fraction is the first 32 bits behind the point of a number's root.
func fraction(p int64, root uint) uint32 {
	number := new(big.Int).Lsh(big.NewInt(p), 32*root)
	low, high := big.NewInt(0), new(big.Int).Lsh(big.NewInt(p), 33)
	for {
		middle := new(big.Int).Add(low, high)
		middle.Rsh(middle, 1)
		if middle.Cmp(low) == 0 {
			return uint32(low.Uint64())
		}
		if new(big.Int).Exp(middle, big.NewInt(int64(root)), nil).Cmp(number) > 0 {
			high = middle
		} else {
			low = middle
		}
	}
}

func plainConstants() (all [64]uint32) {
	for i, p := range primes(64) {
		all[i] = fraction(p, 3)
	}
	return all
}

func plainBegin() (all [8]uint32) {
	for i, p := range primes(8) {
		all[i] = fraction(p, 2)
	}
	return all
}

// rotations is the exclusive or of a word's rotations right by a and b, and by c, or, if it is a shift, shifted by c.
func rotations(x uint32, a, b, c int, shift bool) uint32 {
	var sum uint32
	bit := func(i int) uint32 { return x >> (i % 32) & 1 }
	for i := range 32 {
		one := bit(i+a) ^ bit(i+b)
		if !shift || i+c < 32 {
			one ^= bit(i + c)
		}
		sum |= one << i
	}
	return sum
}

func plainSchedule(piece [64]byte) (words [64]uint32) {
	for i := range words {
		if i < 16 {
			words[i] = binary.BigEndian.Uint32(piece[4*i:])
		} else {
			words[i] = rotations(words[i-2], 17, 19, 10, true) + words[i-7] + rotations(words[i-15], 7, 18, 3, true) + words[i-16]
		}
	}
	return words
}

func plainTake(h [8]uint32, words [64]uint32) [8]uint32 {
	row, constants := h, plainConstants()
	for i := range 64 {
		a, b, c, e, f, g := row[0], row[1], row[2], row[4], row[5], row[6]
		var choice, most uint32
		for k := range 32 {
			if e>>k&1 == 1 {
				choice |= f & (1 << k)
			} else {
				choice |= g & (1 << k)
			}
			if a>>k&1+b>>k&1+c>>k&1 >= 2 {
				most |= 1 << k
			}
		}
		t1 := row[7] + rotations(e, 6, 11, 25, false) + choice + constants[i] + words[i]
		t2 := rotations(a, 2, 13, 22, false) + most
		copy(row[1:], []uint32{row[0], row[1], row[2], row[3], row[4], row[5], row[6]})
		row[0] = t1 + t2
		row[4] += t1
	}
	for i := range row {
		row[i] += h[i]
	}
	return row
}

func plainPad(n int) []byte {
	if n < 0 || n > 1<<40 {
		n = 0
	}
	pad := []byte{0x80}
	for (n+len(pad))%64 != 56 {
		pad = append(pad, 0)
	}
	return binary.BigEndian.AppendUint64(pad, 8*uint64(n))
}

func plainPieces(text []byte) [][64]byte {
	var all [][64]byte
	for piece := range slices.Chunk(slices.Concat(text, plainPad(len(text))), 64) {
		all = append(all, [64]byte(piece))
	}
	return all
}

func dice() *rand.Rand { return rand.New(rand.NewPCG(4, 1)) }

func anyBytes(r *rand.Rand, n int) []byte {
	b := make([]byte, n)
	for i := range b {
		b[i] = byte(r.Uint32())
	}
	return b
}

func anyWords(r *rand.Rand) (words [64]uint32) {
	for i := range words {
		words[i] = r.Uint32()
	}
	return words
}

func sum(t *testing.T, text string) api.Sum {
	t.Helper()
	b, err := hex.DecodeString(strings.ReplaceAll(text, " ", ""))
	if err != nil || len(b) != api.Tag {
		t.Fatal(text, err)
	}
	return api.Sum(b)
}

// edges are the lengths at which a text's padding, or its pieces, become one more, and those beside them.
var edges = []int{0, 1, 2, 54, 55, 56, 57, 62, 63, 64, 65, 118, 119, 120, 121, 127, 128, 129, 183, 184, 191, 192, 193, 255, 256, 1000}

// P4.1: the chapter's example, and the published ones.
func TestPublished(t *testing.T) {
	for text, want := range map[string]string{
		"":    "e3b0c44298fc1c14 9afbf4c8996fb924 27ae41e4649b934c a495991b7852b855",
		"abc": "ba7816bf8f01cfea 414140de5dae2223 b00361a396177a9c b410ff61f20015ad",
		"abcdbcdecdefdefgefghfghighijhijkijkljklmklmnlmnomnopnopq":                                                         "248d6a61d20638b8 e5c026930c3e6039 a33ce45964ff2167 f6ecedd419db06c1",
		"abcdefghbcdefghicdefghijdefghijkefghijklfghijklmghijklmnhijklmnoijklmnopjklmnopqklmnopqrlmnopqrsmnopqrstnopqrstu": "cf5b16a778af8380 036ce59e7b049237 0b249b11e8f07a51 afac45037afee9d1",
		strings.Repeat("a", 1000000): "cdc76e5c9914fb92 81a1c7e284d73e67 f1809a48a497200e 046d39ccc7112cd0",
	} {
		if d := digest.Of([]byte(text)); d != sum(t, want) {
			t.Errorf("Of, %d bytes: %x, want %s", len(text), d, want)
		}
	}
}

// P4.1: texts of all lengths around the edges, and some greater ones, held against another make of the same digest.
func TestOfAgainstAnotherMake(t *testing.T) {
	r := dice()
	for n := range 600 {
		text := anyBytes(r, n)
		if d := digest.Of(text); d != sha256.Sum256(text) {
			t.Errorf("Of, %d bytes: %x, want %x", n, d, sha256.Sum256(text))
		}
	}
	for _, n := range append(edges, api.MaxText-1, api.MaxText, api.MaxText+1, 1<<22) {
		for _, b := range []byte{0, 0x80, 0xff} {
			text := bytes.Repeat([]byte{b}, n)
			if d := digest.Of(text); d != sha256.Sum256(text) {
				t.Errorf("Of, %d bytes of %d: %x, want %x", n, b, d, sha256.Sum256(text))
			}
		}
	}
}

// P4.1: no part at all, parts of nothing, and none of them are the text of no bytes.
func TestOfNothing(t *testing.T) {
	want := sha256.Sum256(nil)
	for i, parts := range [][][]byte{nil, {}, {nil}, {{}}, {nil, nil}, {nil, {}, nil}, make([][]byte, 0, 3), make([][]byte, 70), {make([]byte, 0, 9)}} {
		if d := digest.Of(parts...); d != want {
			t.Errorf("%d: %x", i, d)
		}
	}
	if d := digest.Of(); d != want {
		t.Errorf("no part: %x", d)
	}
}

// P4.1: what is put behind texts of all lengths around the edges, and of great ones.
func TestPad(t *testing.T) {
	lengths := slices.Clone(edges)
	for n := range 300 {
		lengths = append(lengths, n)
	}
	for i := range 41 {
		lengths = append(lengths, 1<<i-9, 1<<i-8, 1<<i-1, 1<<i, 1<<i+1)
	}
	lengths = append(lengths, 0x0123456789, 0xfedcba9876, math.MaxInt32, math.MaxUint32)
	for _, n := range lengths {
		if p := digest.Pad(n); !bytes.Equal(p, plainPad(n)) {
			t.Errorf("Pad(%d): %x, want %x", n, p, plainPad(n))
		}
	}
	for n, want := range map[int]string{
		0:       "80" + strings.Repeat("00", 63),
		1:       "80" + strings.Repeat("00", 61) + "08",
		55:      "8000000000000001b8",
		56:      "80" + strings.Repeat("00", 69) + "01c0",
		63:      "80" + strings.Repeat("00", 62) + "01f8",
		64:      "80" + strings.Repeat("00", 61) + "0200",
		119:     "8000000000000003b8",
		120:     "80" + strings.Repeat("00", 69) + "03c0",
		128:     "80" + strings.Repeat("00", 61) + "0400",
		1 << 40: "80" + strings.Repeat("00", 57) + "080000000000",
	} {
		if p := digest.Pad(n); hex.EncodeToString(p) != want {
			t.Errorf("Pad(%d): %x, want %s", n, p, want)
		}
	}
}

// P4.1: out of range, what is put behind a text of no bytes.
func TestPadOutOfRange(t *testing.T) {
	nothing := append([]byte{0x80}, make([]byte, 63)...)
	for _, n := range []int{-1, -8, -9, -64, -1 << 40, math.MinInt32, math.MinInt, math.MinInt + 1, 1<<40 + 1, 1<<40 + 56, 1 << 41, 1 << 60, 1 << 61, math.MaxInt - 1, math.MaxInt} {
		if p := digest.Pad(n); !bytes.Equal(p, nothing) {
			t.Errorf("Pad(%d): %x", n, p)
		}
	}
	if p := digest.Pad(1 << 40); bytes.Equal(p, nothing) {
		t.Error("Pad(1 << 40) is that of no bytes")
	}
}

// P4.1: the definition's schedule of "abc", padded, and the words of each bit alone and of any piece.
func TestSchedule(t *testing.T) {
	piece := [64]byte{0: 'a', 1: 'b', 2: 'c', 3: 0x80, 63: 24}
	words := digest.Schedule(piece)
	for i, want := range map[int]uint32{0: 0x61626380, 1: 0, 14: 0, 15: 0x18, 16: 0x61626380, 17: 0x000f0000, 18: 0x7da86405, 19: 0x600003c6, 63: 0x12b1edeb} {
		if words[i] != want {
			t.Errorf("word %d: %x, want %x", i, words[i], want)
		}
	}
	if none := digest.Schedule([64]byte{}); none != [64]uint32{} {
		t.Errorf("noughts: %x", none)
	}
	for bit := range 512 {
		var piece [64]byte
		piece[bit/8] = 0x80 >> (bit % 8)
		if w := digest.Schedule(piece); w != plainSchedule(piece) {
			t.Errorf("bit %d: %x, want %x", bit, w, plainSchedule(piece))
		}
	}
	r := dice()
	for i := range 200 {
		piece := [64]byte(anyBytes(r, 64))
		if i == 0 {
			piece = [64]byte(bytes.Repeat([]byte{0xff}, 64))
		}
		if w := digest.Schedule(piece); w != plainSchedule(piece) {
			t.Errorf("Schedule(%x): %x, want %x", piece, w, plainSchedule(piece))
		}
	}
}

// P4.1: a schedule taken into the beginning, as the definition prints it, and any into any words.
func TestTake(t *testing.T) {
	piece := [64]byte{0: 'a', 1: 'b', 2: 'c', 3: 0x80, 63: 24}
	want := [8]uint32{0xba7816bf, 0x8f01cfea, 0x414140de, 0x5dae2223, 0xb00361a3, 0x96177a9c, 0xb410ff61, 0xf20015ad}
	if h := digest.Take(digest.Begin(), digest.Schedule(piece)); h != want {
		t.Errorf("abc: %x", h)
	}
	full := [8]uint32{}
	for i := range full {
		full[i] = math.MaxUint32
	}
	r := dice()
	for i, h := range [][8]uint32{{}, full, plainBegin(), {7: 1}, {0: 1}, {4: 1 << 31}, {0xcafe, 5, 9, 1 << 30, 77, 0xabcdef, 2, 3}} {
		for _, words := range [][64]uint32{{}, {63: 1}, {0: math.MaxUint32}, anyWords(r), anyWords(r)} {
			if taken := digest.Take(h, words); taken != plainTake(h, words) {
				t.Errorf("%d: Take(%x, %x): %x, want %x", i, h, words, taken, plainTake(h, words))
			}
		}
	}
}

// P4.1: constants and beginning are the bits behind the roots' points.
func TestConstantsAndBegin(t *testing.T) {
	if k := digest.Constants(); k != plainConstants() {
		t.Errorf("Constants: %x, want %x", k, plainConstants())
	}
	if h := digest.Begin(); h != plainBegin() {
		t.Errorf("Begin: %x, want %x", h, plainBegin())
	}
}

// P4.1: the pieces of texts of all lengths around the edges are those of the padded text.
func TestPieces(t *testing.T) {
	r := dice()
	lengths := slices.Clone(edges)
	for n := range 260 {
		lengths = append(lengths, n)
	}
	for _, n := range append(lengths, api.MaxText) {
		text := anyBytes(r, n)
		if p := slices.Collect(digest.Pieces(text)); !slices.Equal(p, plainPieces(text)) {
			t.Errorf("Pieces, %d bytes: %x, want %x", n, p, plainPieces(text))
		}
	}
	for i, none := range [][]byte{nil, {}, make([]byte, 0, 64)} {
		if p := slices.Collect(digest.Pieces(none)); !slices.Equal(p, [][64]byte{{0: 0x80}}) {
			t.Errorf("no bytes, %d: %x", i, p)
		}
	}
}

// P4.1: the digest is what the calls for its parts come to.
func TestOfIsMadeOfTheOthers(t *testing.T) {
	r := dice()
	for _, n := range edges {
		text := anyBytes(r, n)
		state := digest.Begin()
		for piece := range digest.Pieces(text) {
			state = digest.Take(state, digest.Schedule(piece))
		}
		var want []byte
		for _, word := range state {
			want = binary.BigEndian.AppendUint32(want, word)
		}
		if d := digest.Of(text); d != api.Sum(want) {
			t.Errorf("%d bytes: %x, want %x", n, d, want)
		}
	}
}

// P4.1: an iterator that is left at any piece ends there; run again it begins anew, also within itself.
func TestPiecesLeftAndRunAgain(t *testing.T) {
	text := anyBytes(dice(), 300)
	want := plainPieces(text)
	pieces := digest.Pieces(text)
	for leave := range len(want) {
		var got [][64]byte
		for piece := range pieces {
			got = append(got, piece)
			if len(got) > leave {
				break
			}
		}
		if !slices.Equal(got, want[:leave+1]) {
			t.Errorf("left behind %d pieces: %x", leave+1, got)
		}
	}
	if p := slices.Collect(pieces); !slices.Equal(p, want) {
		t.Errorf("run again: %x", p)
	}
	outer := 0
	for piece := range pieces {
		if inner := slices.Collect(pieces); piece != want[outer] || !slices.Equal(inner, want) {
			t.Errorf("within piece %d: %x, %x", outer, piece, inner)
		}
		outer++
	}
	if outer != len(want) {
		t.Errorf("%d pieces, want %d", outer, len(want))
	}
}

// P4.1: two runs of one iterator, step by step, know nothing of one another.
func TestPiecesTwiceAtOnce(t *testing.T) {
	text := anyBytes(dice(), 200)
	pieces := digest.Pieces(text)
	one, stopOne := iter.Pull(pieces)
	two, stopTwo := iter.Pull(pieces)
	defer stopOne()
	defer stopTwo()
	for i, want := range plainPieces(text) {
		if a, ok := one(); a != want || !ok {
			t.Errorf("one, piece %d: %x, %v", i, a, ok)
		}
		if i%2 == 0 {
			continue
		}
		if b, ok := two(); b != plainPieces(text)[i/2] || !ok {
			t.Errorf("two, piece %d: %x, %v", i/2, b, ok)
		}
	}
	if a, ok := one(); ok {
		t.Errorf("one piece more: %x", a)
	}
}

// P4.2: a text parted into two at every place, with parts of nothing between, has the same digest.
func TestPartedAtEveryPlace(t *testing.T) {
	r := dice()
	for _, n := range edges {
		text := anyBytes(r, n)
		want := sha256.Sum256(text)
		for at := range n + 1 {
			if d := digest.Of(text[:at], text[at:]); d != want {
				t.Errorf("%d bytes, parted at %d: %x, want %x", n, at, d, want)
			}
			if d := digest.Of(nil, text[:at], []byte{}, nil, text[at:], nil); d != want {
				t.Errorf("%d bytes, parted at %d, with nothing between: %x, want %x", n, at, d, want)
			}
		}
	}
}

// P4.2: texts parted into three at every two places, into bytes, and into any parts.
func TestPartedInMany(t *testing.T) {
	r := dice()
	text := anyBytes(r, 130)
	want := sha256.Sum256(text)
	for a := range len(text) + 1 {
		for b := a; b <= len(text); b++ {
			if d := digest.Of(text[:a], text[a:b], text[b:]); d != want {
				t.Errorf("parted at %d and %d: %x, want %x", a, b, d, want)
			}
		}
	}
	for n := range 200 {
		text := anyBytes(r, n*7)
		want := sha256.Sum256(text)
		if d := digest.Of(slices.Collect(slices.Chunk(text, 1))...); d != want {
			t.Errorf("%d bytes, one by one: %x, want %x", len(text), d, want)
		}
		var parts [][]byte
		for rest := text; len(rest) > 0; {
			cut := min(r.IntN(150), len(rest))
			parts = append(parts, rest[:cut])
			rest = rest[cut:]
		}
		if d := digest.Of(parts...); d != want {
			t.Errorf("%d bytes in %d parts: %x, want %x", len(text), len(parts), d, want)
		}
	}
}

// P4.2: parts that share memory are told one behind the other all the same.
func TestPartsThatShare(t *testing.T) {
	text := anyBytes(dice(), 150)
	want := sha256.Sum256(slices.Concat(text, text, text[10:90], text[:70]))
	if d := digest.Of(text, text, text[10:90], text[:70]); d != want {
		t.Errorf("%x, want %x", d, want)
	}
}

// P4.3: texts, parts, the list of them, words, and all room behind them, stay as they are.
func TestNothingHandedInIsChanged(t *testing.T) {
	r := dice()
	for _, n := range edges {
		room := anyBytes(r, n+100)
		before := slices.Clone(room)
		digest.Of(room[:n])
		digest.Of(room[:n/2], room[n/2:n])
		for range digest.Pieces(room[:n]) {
		}
		if !bytes.Equal(room, before) {
			t.Errorf("a text of %d bytes, or its room, was changed", n)
		}
		list := [][]byte{room[:n], nil, room[:n/2], room[n:], room[1:2], room[3:9]}
		digest.Of(list[:3]...)
		if !bytes.Equal(room, before) || len(list[0]) != n || list[1] != nil || len(list[2]) != n/2 || len(list[3]) != 100 || len(list[4]) != 1 || len(list[5]) != 6 {
			t.Errorf("a list of parts of %d bytes, or its room, was changed", n)
		}
	}
	piece, words, h := [64]byte(anyBytes(r, 64)), anyWords(r), plainBegin()
	pieceBefore, wordsBefore := piece, words
	digest.Schedule(piece)
	digest.Take(h, words)
	if piece != pieceBefore || words != wordsBefore || h != plainBegin() {
		t.Error("a row that was handed in was changed")
	}
}

// P4.3: an iterator tells the text that was handed in, whatever becomes of it behind the call.
func TestPiecesKeepNoText(t *testing.T) {
	r := dice()
	for _, n := range edges {
		room := anyBytes(r, n+64)
		want := plainPieces(room[:n])
		pieces := digest.Pieces(room[:n])
		clear(room)
		if p := slices.Collect(pieces); !slices.Equal(p, want) {
			t.Errorf("%d bytes, changed behind the call: %x, want %x", n, p, want)
		}
		for i := range room {
			room[i] = byte(i)
		}
		if p := slices.Collect(pieces); !slices.Equal(p, want) {
			t.Errorf("%d bytes, changed between two runs: %x, want %x", n, p, want)
		}
	}
}

// P4.3: what is answered is new memory: changing it changes no later answer.
func TestAnswersAreNew(t *testing.T) {
	r := dice()
	pad, other := digest.Pad(3), digest.Pad(3)
	pad = pad[:cap(pad)]
	for i := range pad {
		pad[i] = 0xaa
	}
	if !bytes.Equal(other, plainPad(3)) {
		t.Errorf("Pad(3), another answer: %x", other)
	}
	if p := digest.Pad(3); !bytes.Equal(p, plainPad(3)) {
		t.Errorf("Pad(3): %x", p)
	}
	constants, begin := digest.Constants(), digest.Begin()
	clear(constants[:])
	clear(begin[:])
	if digest.Constants() != plainConstants() || digest.Begin() != plainBegin() {
		t.Error("constants or beginning were changed")
	}
	text := anyBytes(r, 200)
	at := 0
	for piece := range digest.Pieces(text) {
		if piece != plainPieces(text)[at] {
			t.Errorf("piece %d: %x", at, piece)
		}
		clear(piece[:])
		at++
	}
}

// What a call answers hangs on its arguments alone, not on calls ahead of it.
func TestCallsKeepNothing(t *testing.T) {
	r := dice()
	text := anyBytes(r, 100)
	want := sha256.Sum256(text)
	for _, n := range edges {
		digest.Of(anyBytes(r, n))
		for range digest.Pieces(anyBytes(r, n)) {
			break
		}
		digest.Pad(n - 60)
		if d := digest.Of(text); d != want {
			t.Errorf("behind %d bytes: %x, want %x", n, d, want)
		}
	}
}
