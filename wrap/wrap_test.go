package wrap_test

import (
	"bytes"
	"crypto/aes"
	"encoding/binary"
	"encoding/hex"
	"iter"
	"math"
	"math/rand/v2"
	"slices"
	"testing"

	"citadel/api"
	"citadel/wrap"
)

// The chapter's words, made plainly, over another make of the cipher, without a call of the program: the words go round as in a ring, so that each step seals the first one.

const usual = 0xa6a6a6a6a6a6a6a6

// plainWrap wraps a text whose A is any eight bytes.
func plainWrap(key []byte, a uint64, text []byte) []byte {
	other, err := aes.NewCipher(key)
	if err != nil {
		panic(err)
	}
	ring := slices.Clone(text)
	for step := 1; step <= 6*(len(text)/8); step++ {
		k := binary.BigEndian.AppendUint64(nil, a)
		k = append(k, ring[:8]...)
		other.Encrypt(k, k)
		a = binary.BigEndian.Uint64(k) ^ uint64(step)
		ring = append(ring[8:], k[8:]...)
	}
	return append(binary.BigEndian.AppendUint64(nil, a), ring...)
}

// plainUnwrap is what was wrapped, with its A, whatever that is.
func plainUnwrap(key, text []byte) (uint64, []byte) {
	other, err := aes.NewCipher(key)
	if err != nil {
		panic(err)
	}
	a, ring := binary.BigEndian.Uint64(text), slices.Clone(text[8:])
	last := len(ring) - 8
	for step := 6 * (len(ring) / 8); step > 0; step-- {
		k := binary.BigEndian.AppendUint64(nil, a^uint64(step))
		k = append(k, ring[last:]...)
		other.Decrypt(k, k)
		a = binary.BigEndian.Uint64(k)
		ring = slices.Concat(k[8:], ring[:last])
	}
	return a, ring
}

func dice() *rand.Rand { return rand.New(rand.NewPCG(7, 1)) }

func anyBytes(r *rand.Rand, n int) []byte {
	b := make([]byte, n)
	for i := range b {
		b[i] = byte(r.Uint32())
	}
	return b
}

func raw(t *testing.T, text string) []byte {
	t.Helper()
	b, err := hex.DecodeString(text)
	if err != nil {
		t.Fatal(err)
	}
	return b
}

// ramp is n bytes, 0, 1 .. 255, 0 ..
func ramp(n int) []byte {
	b := make([]byte, n)
	for i := range b {
		b[i] = byte(i)
	}
	return b
}

// badKeys are keys of all lengths around the good ones, and of great ones, with spare room.
func badKeys() [][]byte {
	keys := [][]byte{nil, make([]byte, 0, 64), make([]byte, 128), make([]byte, 256), make([]byte, 1<<16), make([]byte, 1<<20)}
	for n := range 100 {
		if n != 16 && n != 32 {
			keys = append(keys, make([]byte, n, 2*n+64))
		}
	}
	return keys
}

// badTexts are texts that aren't from low to high words, with spare room.
func badTexts(low, high int) [][]byte {
	texts := [][]byte{nil, {}, make([]byte, 0, 64)}
	for n := 1; n <= 8*high+24; n++ {
		if n%8 != 0 || n < 8*low || n > 8*high {
			texts = append(texts, make([]byte, n, n+64))
		}
	}
	for _, n := range []int{8 * (high + 8), 1 << 16, 1<<16 + 8, 1 << 20, 1<<20 + 8*low} {
		texts = append(texts, make([]byte, n))
	}
	return texts
}

// wantWrapped tells where a text isn't wrapped as want, or what is wrapped isn't unwrapped.
func wantWrapped(t *testing.T, key, text, want []byte) {
	t.Helper()
	if w, err := wrap.Wrap(key, text); !bytes.Equal(w, want) || err != nil {
		t.Errorf("Wrap, a key of %d, %d bytes: %x, %v, want %x", len(key), len(text), w, err, want)
	}
	if u, err := wrap.Unwrap(key, want); !bytes.Equal(u, text) || err != nil {
		t.Errorf("Unwrap, a key of %d, %d bytes: %x, %v, want %x", len(key), len(want), u, err, text)
	}
}

// wantRefused tells where a text is unwrapped that must not be.
func wantRefused(t *testing.T, key, text []byte) {
	t.Helper()
	if u, err := wrap.Unwrap(key, text); u != nil || err != api.ErrUnwrap {
		t.Errorf("Unwrap, a key of %d, %x: %x, %v", len(key), text, u, err)
	}
}

// P7.1: the chapter's example, and all other published ones whose keys are good ones.
func TestExamples(t *testing.T) {
	const data = "00112233445566778899aabbccddeeff"
	for _, c := range []struct {
		key        int
		text, want string
	}{
		{16, data, "1fa68b0a8112b447aef34bd8fb5a7b829d3e862371d2cfe5"},
		{32, data, "64e8c3f9ce0f5ba263e9777905818a2a93c8191e7d6e8ae7"},
		{32, data + "0001020304050607", "a8f9bc1612c68b3ff6e6f4fbe30e71e4769c8b80a32cb8958cd5d17d6b254da1"},
		{32, data + "000102030405060708090a0b0c0d0e0f", "28c9f404c4b810f4cbccb35cfb87f8263f5786e2d80ed326cbc7f0e71a99f43bfb988b9b7a02dd21"},
	} {
		wantWrapped(t, ramp(c.key), raw(t, c.text), raw(t, c.want))
	}
}

// P7.1: texts of all numbers of words, the step's number having two bytes from 43 words on, with short keys and long ones.
func TestAllNumbersOfWords(t *testing.T) {
	r := dice()
	for n := 2; n <= 64; n++ {
		sizes := []int{16 + 16*(n%2)}
		if slices.Contains([]int{2, 3, 42, 43, 63, 64}, n) {
			sizes = []int{16, 32}
		}
		for _, size := range sizes {
			key, text := anyBytes(r, size), anyBytes(r, 8*n)
			wantWrapped(t, key, text, plainWrap(key, usual, text))
		}
	}
}

// P7.1: many texts of few words.
func TestManyTexts(t *testing.T) {
	r := dice()
	for i := range 120 {
		key, text := anyBytes(r, 16+16*(i%2)), anyBytes(r, 16+8*(i%5))
		wantWrapped(t, key, text, plainWrap(key, usual, text))
	}
}

// P7.1: keys and texts whose bytes are all the same, also those of A.
func TestLikeBytes(t *testing.T) {
	for _, b := range []byte{0, 1, 0x80, 0xa6, 0xff} {
		for _, n := range []int{2, 3, 7} {
			for _, size := range []int{16, 32} {
				key, text := bytes.Repeat([]byte{b}, size), bytes.Repeat([]byte{b}, 8*n)
				wantWrapped(t, key, text, plainWrap(key, usual, text))
			}
		}
	}
}

// P7.1: what was wrapped with any other A is refused, however little that differs.
func TestAnotherA(t *testing.T) {
	r := dice()
	others := []uint64{0, 1, math.MaxUint64, 0xa6, 0xa6 << 56, 0xa6a6a6a6, 0xa6a6a6a6 << 32, ^uint64(usual), 0xa65959a600000010}
	for bit := range 64 {
		others = append(others, usual^1<<bit)
	}
	for i, a := range others {
		key, text := anyBytes(r, 16+16*(i%2)), anyBytes(r, 16+8*(i%3))
		wantRefused(t, key, plainWrap(key, a, text))
	}
	key, text := anyBytes(r, 32), anyBytes(r, 512)
	for _, bit := range []int{0, 8, 63} {
		wantRefused(t, key, plainWrap(key, usual^1<<bit, text))
	}
}

// P7.1: what was wrapped is refused with one byte changed, in each place.
func TestOneByteChanged(t *testing.T) {
	r := dice()
	for _, size := range []int{16, 32} {
		for _, n := range []int{2, 3} {
			key := anyBytes(r, size)
			wrapped := plainWrap(key, usual, anyBytes(r, 8*n))
			for i := range wrapped {
				for _, change := range []byte{1, 0x80, 0xff, byte(1 + r.IntN(255))} {
					changed := slices.Clone(wrapped)
					changed[i] ^= change
					wantRefused(t, key, changed)
				}
			}
		}
	}
}

// P7.1: the longest text, wrapped, is refused with one byte changed, in A and in each word.
func TestOneByteOfALongTextChanged(t *testing.T) {
	r := dice()
	key := anyBytes(r, 16)
	wrapped := plainWrap(key, usual, anyBytes(r, 512))
	for at := range 65 {
		i := 8*at + at%8
		changed := slices.Clone(wrapped)
		changed[i] ^= 1 << (i % 8)
		wantRefused(t, key, changed)
	}
}

// P7.1: what was wrapped is refused with its words changed about, with one fewer, with one more.
func TestWordsChangedAbout(t *testing.T) {
	r := dice()
	for _, n := range []int{2, 3, 4, 10} {
		key, text := anyBytes(r, 16), anyBytes(r, 8*n)
		wrapped := plainWrap(key, usual, text)
		for at := 0; at < len(wrapped); at += 8 {
			turned := slices.Concat(wrapped[at:], wrapped[:at])
			if at > 0 {
				wantRefused(t, key, turned)
			}
		}
		wantRefused(t, key, append(slices.Clone(wrapped), make([]byte, 8)...))
		wantRefused(t, key, append(make([]byte, 8), wrapped...))
		wantRefused(t, key, append(slices.Repeat([]byte{0xa6}, 8), text...))
		wantRefused(t, key, append(text, slices.Repeat([]byte{0xa6}, 8)...))
		if n > 2 {
			wantRefused(t, key, wrapped[:8*n])
			wantRefused(t, key, wrapped[8:])
		}
	}
}

// P7.1: what was wrapped with another key is refused, however little that differs.
func TestAnotherKey(t *testing.T) {
	r := dice()
	for _, size := range []int{16, 32} {
		for _, n := range []int{2, 3} {
			key, text := anyBytes(r, size), anyBytes(r, 8*n)
			wrapped := plainWrap(key, usual, text)
			for i := range key {
				other := slices.Clone(key)
				other[i] ^= 1 << (i % 8)
				wantRefused(t, other, wrapped)
			}
			wantRefused(t, make([]byte, 48-size), wrapped)
			wantRefused(t, append(slices.Clone(key), key...)[:48-size], wrapped)
			wantRefused(t, make([]byte, size), wrapped)
		}
		key := anyBytes(r, size)
		wrapped := plainWrap(key, usual, anyBytes(r, 512))
		key[0] ^= 1
		wantRefused(t, key, wrapped)
	}
}

// P7.1: texts that nobody wrapped are refused.
func TestNobodyWrapped(t *testing.T) {
	r := dice()
	for _, n := range []int{3, 4, 5, 6, 7, 9, 17, 64, 65} {
		for _, size := range []int{16, 32} {
			wantRefused(t, anyBytes(r, size), anyBytes(r, 8*n))
		}
	}
	for _, n := range []int{3, 4, 64, 65} {
		wantRefused(t, make([]byte, 16), make([]byte, 8*n))
		wantRefused(t, make([]byte, 32), bytes.Repeat([]byte{0xa6}, 8*n))
	}
}

// P7.1: a text that has too few words, too many or no whole ones is refused, with nothing beside the error.
func TestBadTexts(t *testing.T) {
	for _, size := range []int{16, 32} {
		for _, text := range badTexts(2, 64) {
			if w, err := wrap.Wrap(make([]byte, size), text); w != nil || err != api.ErrForm {
				t.Errorf("Wrap, a key of %d, %d bytes: %x, %v", size, len(text), w, err)
			}
		}
		for _, text := range badTexts(3, 65) {
			if u, err := wrap.Unwrap(make([]byte, size), text); u != nil || err != api.ErrForm {
				t.Errorf("Unwrap, a key of %d, %d bytes: %x, %v", size, len(text), u, err)
			}
		}
	}
}

// P7.1: a key of no good length is refused ahead of everything else, with nothing beside the error.
func TestBadKeys(t *testing.T) {
	good := plainWrap(ramp(16), usual, ramp(16))
	texts := [][]byte{nil, {}, make([]byte, 8), make([]byte, 15), make([]byte, 16), make([]byte, 17), make([]byte, 23), good, make([]byte, 25), make([]byte, 512), make([]byte, 513), make([]byte, 520), make([]byte, 521), make([]byte, 528)}
	for _, key := range badKeys() {
		for _, text := range texts {
			if w, err := wrap.Wrap(key, text); w != nil || err != api.ErrKey {
				t.Errorf("Wrap, a key of %d, %d bytes: %x, %v", len(key), len(text), w, err)
			}
			if u, err := wrap.Unwrap(key, text); u != nil || err != api.ErrKey {
				t.Errorf("Unwrap, a key of %d, %d bytes: %x, %v", len(key), len(text), u, err)
			}
		}
	}
}

// P7.1: what stands in the room behind a key or a text counts for nothing.
func TestSpareRoomCountsForNothing(t *testing.T) {
	r := dice()
	for _, size := range []int{16, 32} {
		for _, n := range []int{2, 3, 63, 64} {
			keyRoom, textRoom := anyBytes(r, size+32), anyBytes(r, 8*n+40)
			key, text := keyRoom[:size], textRoom[:8*n]
			wrapped := plainWrap(key, usual, text)
			wantWrapped(t, key, text, wrapped)
			if u, err := wrap.Unwrap(key, append(slices.Clone(wrapped), 1, 2, 3, 4, 5, 6, 7, 8, 9)[:len(wrapped)]); !bytes.Equal(u, text) || err != nil {
				t.Errorf("Unwrap, a key of %d, %d words, with room: %x, %v", size, n, u, err)
			}
		}
	}
	for _, size := range []int{0, 15, 17, 24, 31} {
		if w, err := wrap.Wrap(make([]byte, 64)[:size], ramp(16)); w != nil || err != api.ErrKey {
			t.Errorf("Wrap, a key of %d with room: %x, %v", size, w, err)
		}
	}
}

type pair struct{ step, i int }

// plainSteps is the steps of n words, from 2 to 64, in their order.
func plainSteps(n int) []pair {
	var pairs []pair
	for step := 1; step <= 6*n; step++ {
		i := step % n
		if i == 0 {
			i = n
		}
		pairs = append(pairs, pair{step, i})
	}
	return pairs
}

// take is the first so many pairs, by a loop that is left.
func take(steps iter.Seq2[int, int], most int) []pair {
	var pairs []pair
	for step, i := range steps {
		pairs = append(pairs, pair{step, i})
		if len(pairs) == most {
			break
		}
	}
	return pairs
}

// P7.1: steps of all numbers of words that a text may have, six times as many as words.
func TestSteps(t *testing.T) {
	for n := 2; n <= 64; n++ {
		pairs := take(wrap.Steps(n), math.MaxInt)
		if want := plainSteps(n); !slices.Equal(pairs, want) || len(pairs) != 6*n {
			t.Errorf("%d words: %v", n, pairs)
		}
	}
	want := []pair{{1, 1}, {2, 2}, {3, 1}, {4, 2}, {5, 1}, {6, 2}, {7, 1}, {8, 2}, {9, 1}, {10, 2}, {11, 1}, {12, 2}}
	if pairs := take(wrap.Steps(2), math.MaxInt); !slices.Equal(pairs, want) {
		t.Errorf("2 words: %v", pairs)
	}
}

// P7.1: no steps of numbers of words that no text may have.
func TestNoSteps(t *testing.T) {
	numbers := []int{0, 1, 65, 66, 127, 128, 256, 258, 320, 1 << 16, 1<<31 + 2, 1<<32 + 2, 1<<32 + 64, math.MaxInt / 6, math.MaxInt - 1, math.MaxInt, -1, -2, -3, -64, -65, math.MinInt32, math.MinInt + 2, math.MinInt + 64, math.MinInt + 1, math.MinInt}
	for _, n := range numbers {
		steps := wrap.Steps(n)
		if steps == nil {
			t.Fatalf("%d words: no iterator", n)
		}
		for range 2 {
			if pairs := take(steps, 10); pairs != nil {
				t.Errorf("%d words: %v", n, pairs)
			}
		}
	}
}

// P7.1: steps that are left anywhere end there; run again they begin anew.
func TestStepsLeftAndRunAgain(t *testing.T) {
	for _, n := range []int{2, 3, 63, 64} {
		want := plainSteps(n)
		steps := wrap.Steps(n)
		for most := 1; most <= 6*n; most++ {
			if pairs := take(steps, most); !slices.Equal(pairs, want[:most]) {
				t.Fatalf("%d words, left behind %d: %v", n, most, pairs)
			}
			calls := 0
			steps(func(int, int) bool { calls++; return calls < most })
			if calls != most {
				t.Fatalf("%d words, left behind %d calls: %d", n, most, calls)
			}
		}
		if pairs := take(steps, math.MaxInt); !slices.Equal(pairs, want) {
			t.Errorf("%d words, run again: %v", n, pairs)
		}
	}
}

// P7.1: steps within themselves, and two runs step by step, know nothing of one another.
func TestStepsWithinThemselves(t *testing.T) {
	want := plainSteps(5)
	steps := wrap.Steps(5)
	at := 0
	for step, i := range steps {
		if inner := take(steps, at+1); (pair{step, i}) != want[at] || !slices.Equal(inner, want[:at+1]) {
			t.Errorf("within %d: %d, %d, %v", at, step, i, inner)
		}
		at++
	}
	one, stopOne := iter.Pull2(steps)
	two, stopTwo := iter.Pull2(steps)
	defer stopOne()
	defer stopTwo()
	for at := range want {
		if step, i, ok := one(); (pair{step, i}) != want[at] || !ok {
			t.Errorf("one, %d: %d, %d, %v", at, step, i, ok)
		}
		if at%2 == 0 {
			continue
		}
		if step, i, ok := two(); (pair{step, i}) != want[at/2] || !ok {
			t.Errorf("two, %d: %d, %d, %v", at/2, step, i, ok)
		}
	}
	if step, i, ok := one(); step != 0 || i != 0 || ok {
		t.Errorf("one, at its end: %d, %d, %v", step, i, ok)
	}
}

// P7.2: Unwrap undoes Wrap, with the same key, and Wrap hides what it takes.
func TestUnwrapUndoesWrap(t *testing.T) {
	r := dice()
	for _, n := range []int{2, 3, 4, 5, 8, 16, 42, 43, 63, 64} {
		for _, size := range []int{16, 32} {
			key, text := anyBytes(r, size), anyBytes(r, 8*n)
			w, err := wrap.Wrap(key, text)
			if len(w) != 8*n+8 || bytes.Contains(w, text[:8]) || err != nil {
				t.Errorf("Wrap, a key of %d, %x: %x, %v", size, text, w, err)
			}
			if u, err := wrap.Unwrap(key, w); !bytes.Equal(u, text) || err != nil {
				t.Errorf("Unwrap(Wrap(%x)), a key of %d: %x, %v", text, size, u, err)
			}
		}
	}
}

// P7.2: what Unwrap takes is, wrapped again, the same; what the plain make of it doesn't take, it doesn't take either.
func TestWrappedAgain(t *testing.T) {
	r := dice()
	for i := range 200 {
		key, text := anyBytes(r, 16+16*(i%2)), anyBytes(r, 24+8*(i%4))
		if i%4 == 0 {
			text = plainWrap(key, usual, text)
		}
		a, plain := plainUnwrap(key, text)
		u, err := wrap.Unwrap(key, text)
		if a != usual {
			if u != nil || err != api.ErrUnwrap {
				t.Errorf("Unwrap(%x), of another A: %x, %v", text, u, err)
			}
			continue
		}
		w, err2 := wrap.Wrap(key, u)
		if !bytes.Equal(u, plain) || !bytes.Equal(w, text) || err != nil || err2 != nil {
			t.Errorf("Wrap(Unwrap(%x)): %x, %x, %v, %v", text, u, w, err, err2)
		}
	}
}

// P7.2: what was wrapped may be wrapped again, and is unwrapped as often.
func TestWrappedTwice(t *testing.T) {
	r := dice()
	text := anyBytes(r, 32)
	first, second := anyBytes(r, 16), anyBytes(r, 32)
	w, _ := wrap.Wrap(first, text)
	w, _ = wrap.Wrap(second, w)
	if want := plainWrap(second, usual, plainWrap(first, usual, text)); !bytes.Equal(w, want) {
		t.Errorf("wrapped twice: %x, want %x", w, want)
	}
	wantRefused(t, first, w)
	u, _ := wrap.Unwrap(second, w)
	wantRefused(t, second, u)
	if u, err := wrap.Unwrap(first, u); !bytes.Equal(u, text) || err != nil {
		t.Errorf("unwrapped twice: %x, %v", u, err)
	}
}

// P7.3: keys and texts, and all room behind them, stay as they are, whether the call is refused or not.
func TestNothingHandedInIsChanged(t *testing.T) {
	r := dice()
	for _, size := range []int{0, 15, 16, 17, 24, 31, 32, 33, 64} {
		for _, n := range []int{0, 8, 15, 16, 17, 23, 24, 25, 32, 520, 521} {
			keyRoom, textRoom := anyBytes(r, size+100), anyBytes(r, n+100)
			if n%8 == 0 && n > 16 && (size == 16 || size == 32) {
				copy(textRoom, plainWrap(keyRoom[:size], usual, textRoom[:n-8]))
			}
			keyBefore, textBefore := slices.Clone(keyRoom), slices.Clone(textRoom)
			wrap.Wrap(keyRoom[:size], textRoom[:n])
			wrap.Unwrap(keyRoom[:size], textRoom[:n])
			if !bytes.Equal(keyRoom, keyBefore) || !bytes.Equal(textRoom, textBefore) {
				t.Errorf("a key of %d, %d bytes: something was changed", size, n)
			}
		}
	}
}

// P7.3: a key and a text that share memory are told apart, and stay as they are.
func TestKeyAndTextThatShare(t *testing.T) {
	r := dice()
	for _, size := range []int{16, 32} {
		for _, at := range []int{0, 1, 8, 16, size - 1} {
			for _, n := range []int{2, 3, 9} {
				room := anyBytes(r, 200)
				before := slices.Clone(room)
				want := plainWrap(before[:size], usual, before[at:at+8*n])
				if w, err := wrap.Wrap(room[:size], room[at:at+8*n]); !bytes.Equal(w, want) || err != nil || !bytes.Equal(room, before) {
					t.Errorf("Wrap, a key of %d, %d words from %d on: %x, %v", size, n, at, w, err)
				}
			}
		}
		all := plainWrap(ramp(size), usual, ramp(size))
		key := all[8 : 8+size]
		before := slices.Clone(all)
		if _, err := wrap.Unwrap(key, all); err != api.ErrUnwrap || !bytes.Equal(all, before) {
			t.Errorf("Unwrap, a key of %d that is part of the text: %v", size, err)
		}
	}
}

// scribble changes a row with all its room.
func scribble(row []byte) {
	row = row[:cap(row)]
	for i := range row {
		row[i] ^= 0xff
	}
}

// P7.3: what is answered is new memory, with its room: changing it changes no argument and no other answer.
func TestAnswersAreNew(t *testing.T) {
	r := dice()
	for _, n := range []int{2, 3, 63, 64} {
		key, text := anyBytes(r, 32), anyBytes(r, 8*n+64)[:8*n]
		wrapped := append(plainWrap(key, usual, text), anyBytes(r, 64)...)[:8*n+8]
		for name, call := range map[string]func() ([]byte, error){
			"Wrap":   func() ([]byte, error) { return wrap.Wrap(key, text) },
			"Unwrap": func() ([]byte, error) { return wrap.Unwrap(key, wrapped) },
		} {
			keyBefore, textBefore, wrappedBefore := slices.Clone(key), slices.Clone(text[:cap(text)]), slices.Clone(wrapped[:cap(wrapped)])
			first, _ := call()
			second, _ := call()
			want := slices.Clone(second)
			scribble(first)
			if !bytes.Equal(second, want) {
				t.Errorf("%s, %d words: another answer was changed", name, n)
			}
			if third, err := call(); !bytes.Equal(third, want) || len(want) == 0 || err != nil {
				t.Errorf("%s, %d words: a later answer was changed: %x, %v", name, n, third, err)
			}
			if !bytes.Equal(key, keyBefore) || !bytes.Equal(text[:cap(text)], textBefore) || !bytes.Equal(wrapped[:cap(wrapped)], wrappedBefore) {
				t.Errorf("%s, %d words: an argument was changed", name, n)
			}
		}
	}
}

// P7.3: keys and texts that are changed behind a call change nothing that was answered, nor anything that is asked later.
func TestNothingHandedInIsKept(t *testing.T) {
	r := dice()
	for _, n := range []int{2, 3, 10} {
		for _, size := range []int{16, 32} {
			key, text := anyBytes(r, size), anyBytes(r, 8*n)
			wrapped := plainWrap(key, usual, text)
			handed := slices.Clone(wrapped)
			w, _ := wrap.Wrap(key, text)
			u, _ := wrap.Unwrap(key, handed)
			want := slices.Clone(text)
			clear(text)
			clear(handed)
			clear(key)
			if !bytes.Equal(w, wrapped) || !bytes.Equal(u, want) {
				t.Errorf("a key of %d, %d words: an answer was changed", size, n)
			}
			wantWrapped(t, key, text, plainWrap(key, usual, text))
			wantRefused(t, key, wrapped)
		}
	}
}

// What a call answers hangs on its arguments alone, not on calls ahead of it, also where those were refused.
func TestCallsKeepNothing(t *testing.T) {
	r := dice()
	key, text := anyBytes(r, 32), anyBytes(r, 40)
	wrapped := plainWrap(key, usual, text)
	for _, size := range []int{0, 16, 17, 32} {
		for _, n := range []int{0, 16, 24, 27, 48} {
			other := anyBytes(r, size)
			wrap.Wrap(other, anyBytes(r, n))
			wrap.Unwrap(other, anyBytes(r, n))
			take(wrap.Steps(n), 7)
			wantWrapped(t, key, text, wrapped)
			if pairs := take(wrap.Steps(5), 100); !slices.Equal(pairs, plainSteps(5)) {
				t.Errorf("behind %d words: %v", n, pairs)
			}
		}
	}
}
