package tweak_test

import (
	"bytes"
	"crypto/aes"
	"encoding/binary"
	"encoding/hex"
	"iter"
	"math"
	"math/big"
	"math/rand/v2"
	"slices"
	"testing"

	"citadel/api"
	"citadel/tweak"
)

// The chapter's words, made plainly, over another make of the cipher, without a call of the program.

func seal(key []byte, k api.Key) api.Key {
	other, err := aes.NewCipher(key)
	if err != nil {
		panic(err)
	}
	other.Encrypt(k[:], k[:])
	return k
}

func open(key []byte, k api.Key) api.Key {
	other, err := aes.NewCipher(key)
	if err != nil {
		panic(err)
	}
	other.Decrypt(k[:], k[:])
	return k
}

func add(a, b api.Key) api.Key {
	for i := range a {
		a[i] ^= b[i]
	}
	return a
}

func plainTweak(key []byte, n int) api.Key {
	var k api.Key
	binary.LittleEndian.PutUint64(k[:], uint64(n))
	return seal(key, k)
}

// plainDoubled doubles j times: a block is a number whose bit i is the coefficient of x^i.
func plainDoubled(k api.Key, j int) api.Key {
	slices.Reverse(k[:])
	n := new(big.Int).SetBytes(k[:])
	modulus := new(big.Int).SetBit(big.NewInt(0x87), 128, 1)
	for range j {
		n.Lsh(n, 1)
		if n.Bit(128) == 1 {
			n.Xor(n, modulus)
		}
	}
	n.FillBytes(k[:])
	slices.Reverse(k[:])
	return k
}

func plainHideBlock(key []byte, t, k api.Key) api.Key { return add(seal(key, add(k, t)), t) }
func plainShowBlock(key []byte, t, k api.Key) api.Key { return add(open(key, add(k, t)), t) }

// plainHide hides block behind block; where bytes are left it goes by the chapter's sentence.
func plainHide(key []byte, n int, text []byte) []byte {
	first, t := key[:len(key)/2], plainTweak(key[len(key)/2:], n)
	m, r := len(text)/16, len(text)%16
	var hidden []byte
	var last, behind api.Key
	for j := range m {
		if j == m-1 {
			last, behind = t, plainDoubled(t, 1)
		}
		c := plainHideBlock(first, t, api.Key(text[16*j:]))
		hidden = append(hidden, c[:]...)
		t = plainDoubled(t, 1)
	}
	if r == 0 {
		return hidden
	}
	c := plainHideBlock(first, last, api.Key(text[16*(m-1):]))
	joined := slices.Concat(text[16*m:], c[r:])
	place := plainHideBlock(first, behind, api.Key(joined))
	return slices.Concat(hidden[:16*(m-1)], place[:], c[:r])
}

func dice() *rand.Rand { return rand.New(rand.NewPCG(6, 1)) }

func anyBytes(r *rand.Rand, n int) []byte {
	b := make([]byte, n)
	for i := range b {
		b[i] = byte(r.Uint32())
	}
	return b
}

func anyBlock(r *rand.Rand) api.Key { return api.Key(anyBytes(r, 16)) }

func raw(t *testing.T, text string) []byte {
	t.Helper()
	b, err := hex.DecodeString(text)
	if err != nil {
		t.Fatal(err)
	}
	return b
}

// ramp is n bytes, 0, 1 .. 255, 0 ..
func ramp(n int) []byte {
	b := make([]byte, n)
	for i := range b {
		b[i] = byte(i)
	}
	return b
}

// numbers are sectors' numbers: the least, those whose lowest byte is full, great ones, negative ones.
var numbers = []int{0, 1, 2, 127, 128, 255, 256, 257, 65535, 65536, 1 << 31, 1<<32 - 1, 1 << 32, 1 << 56, 0x0123456789abcdef, math.MaxInt - 1, math.MaxInt, -1, -2, -255, -256, -257, math.MinInt32, math.MinInt + 1, math.MinInt}

// textSizes are bytes of texts: one block to five, with each number of bytes left behind them, and more.
var textSizes = func() []int {
	var all []int
	for n := 16; n <= 96; n++ {
		all = append(all, n)
	}
	return append(all, 127, 128, 129, 255, 256, 257, 511, 512, 513, 2047, 2048, 2049)
}()

// greatSizes are bytes of texts near the greatest one.
var greatSizes = []int{1<<16 - 17, 1<<16 - 16, 1<<16 - 15, 1<<16 - 1, 1 << 16}

// badTexts are texts that have too few bytes, or too many.
func badTexts() [][]byte {
	texts := [][]byte{nil, {}, make([]byte, 0, 64), make([]byte, 15, 64), make([]byte, 1<<16, 1<<17)[:1<<16+1]}
	for n := 1; n < 16; n++ {
		texts = append(texts, make([]byte, n))
	}
	for _, n := range []int{1<<16 + 1, 1<<16 + 15, 1<<16 + 16, 1<<16 + 17, 1 << 17, 1 << 20} {
		texts = append(texts, make([]byte, n))
	}
	return texts
}

// badKeys are keys of all lengths around the good ones, but for those of the good lengths.
func badKeys(good ...int) [][]byte {
	keys := [][]byte{nil, make([]byte, 0, 64), make([]byte, 128), make([]byte, 256), make([]byte, 1<<16), make([]byte, 1<<20)}
	for n := range 130 {
		if !slices.Contains(good, n) {
			keys = append(keys, make([]byte, n, 2*n+64))
		}
	}
	return keys
}

// P6.1: the chapter's example.
func TestExample(t *testing.T) {
	key, text := make([]byte, 32), make([]byte, 32)
	want := raw(t, "917cf69ebd68b2ec9b9fe9a3eadda692cd43d2f59598ed858c02c2652fbf922e")
	if h, err := tweak.Hide(key, 0, text); !bytes.Equal(h, want) || err != nil {
		t.Errorf("Hide: %x, %v", h, err)
	}
	if s, err := tweak.Show(key, 0, want); !bytes.Equal(s, text) || err != nil {
		t.Errorf("Show: %x, %v", s, err)
	}
}

// P6.1: the published examples of whole blocks: of a sector of 512 bytes the first two blocks and the last two.
func TestPublished(t *testing.T) {
	const long = "2718281828459045235360287471352662497757247093699959574966967627" + "3141592653589793238462643383279502884197169399375105820974944592"
	const short = "27182818284590452353602874713526" + "31415926535897932384626433832795"
	const twos = "22222222222222222222222222222222"
	fours := bytes.Repeat([]byte{0x44}, 32)
	for _, c := range []struct {
		key         string
		n           int
		text        []byte
		first, last string
	}{
		{"11111111111111111111111111111111" + twos, 0x3333333333, fours, "c454185e6a16936e39334038acef838bfb186fff7480adc4289382ecd6d394f0", ""},
		{"fffefdfcfbfaf9f8f7f6f5f4f3f2f1f0" + twos, 0x3333333333, fours, "af85336b597afc1a900b2eb21ec949d292df4c047e0b21532186a5971a227a89", ""},
		{short, 0, ramp(512), "27a7479befa1d476489f308cd4cfa6e2a96e4bbe3208ff25287dd3819616e89c", "eb4a427d1923ce3ff262735779a418f20a282df920147beabe421ee5319d0568"},
		{long, 0xff, ramp(512), "1c3b3a102f770386e4836c99e370cf9bea00803f5e482357a4ae12d414a3e63b", "773dad38014bd2092fa755c824bb5e54c4f36ffda9fcea70b9c6e693e148c151"},
		{long, 0xffff, ramp(512), "77a31251618a15e6b92d1d66dffe7b50b50bad552305ba0217a610688eff7e11", ""},
		{long, 0xffffff, ramp(512), "e387aaa58ba483afa7e8eb469778317ecf4cf573aa9d4eac23f2cdf914e4e200", ""},
	} {
		key := raw(t, c.key)
		h, err := tweak.Hide(key, c.n, c.text)
		if !bytes.HasPrefix(h, raw(t, c.first)) || !bytes.HasSuffix(h, raw(t, c.last)) || err != nil {
			t.Errorf("Hide(%s, %x): %x, %v", c.key, c.n, h, err)
		}
		if s, err := tweak.Show(key, c.n, h); !bytes.Equal(s, c.text) || err != nil {
			t.Errorf("Show(%s, %x): %x, %v", c.key, c.n, s, err)
		}
	}
}

// P6.1: the published examples of texts that aren't whole blocks.
func TestPublishedWithBytesLeft(t *testing.T) {
	key := raw(t, "fffefdfcfbfaf9f8f7f6f5f4f3f2f1f0bfbebdbcbbbab9b8b7b6b5b4b3b2b1b0")
	for _, want := range []string{
		"6c1625db4671522d3d7599601de7ca09ed",
		"d069444b7a7e0cab09e24447d24deb1fedbf",
		"e5df1351c0544ba1350b3363cd8ef4beedbf9d",
		"9d84c813f719aa2c7be3f66171c7c5c2edbf9dac",
	} {
		text := ramp(len(want) / 2)
		if h, err := tweak.Hide(key, 0x123456789a, text); !bytes.Equal(h, raw(t, want)) || err != nil {
			t.Errorf("Hide, %d bytes: %x, %v", len(text), h, err)
		}
		if s, err := tweak.Show(key, 0x123456789a, raw(t, want)); !bytes.Equal(s, text) || err != nil {
			t.Errorf("Show, %d bytes: %x, %v", len(text), s, err)
		}
	}
}

// P6.1: a number's tweak, with short keys and long ones.
func TestTweak(t *testing.T) {
	r := dice()
	for _, size := range []int{16, 32} {
		for _, key := range [][]byte{make([]byte, size), ramp(size), anyBytes(r, size), anyBytes(r, 2*size)[:size]} {
			for _, n := range append(numbers, int(r.Uint64()), int(r.Uint64())) {
				if k, err := tweak.Tweak(key, n); k != plainTweak(key, n) || err != nil {
					t.Errorf("Tweak(%x, %d): %x, %v", key, n, k, err)
				}
			}
		}
	}
}

// P6.1: each byte of a number stands in its own place, the lowest first, and nothing but noughts behind them.
func TestTweakPlacesBytes(t *testing.T) {
	key := ramp(16)
	for n, number := range map[int]api.Key{
		0:                  {},
		1:                  {1},
		255:                {255},
		256:                {0, 1},
		0x0123456789abcdef: {0xef, 0xcd, 0xab, 0x89, 0x67, 0x45, 0x23, 0x01},
		math.MaxInt:        {255, 255, 255, 255, 255, 255, 255, 127},
		-1:                 {255, 255, 255, 255, 255, 255, 255, 255},
		-256:               {0, 255, 255, 255, 255, 255, 255, 255},
		math.MinInt:        {7: 128},
	} {
		if k, err := tweak.Tweak(key, n); open(key, k) != number || err != nil {
			t.Errorf("Tweak of %d: of %x, %v", n, open(key, k), err)
		}
	}
}

// P6.1: tweaks come with their numbers, from 0 on, each the double of the one ahead of it, also far behind the 128th.
func TestTweaks(t *testing.T) {
	r := dice()
	for _, first := range []api.Key{{}, {1}, {0x80}, {15: 0x80}, {15: 0x40}, {0x87}, {0x87, 15: 0x80}, api.Key(bytes.Repeat([]byte{255}, 16)), anyBlock(r), anyBlock(r)} {
		at, want := 0, first
		for j, k := range tweak.Tweaks(first) {
			if j != at || k != want {
				t.Fatalf("Tweaks(%x), %d: %d, %x, want %x", first, at, j, k, want)
			}
			if at++; at == 500 {
				break
			}
			want = plainDoubled(want, 1)
		}
		if at != 500 {
			t.Errorf("Tweaks(%x): %d of them", first, at)
		}
	}
}

// P6.1: the first tweak of one is x^j for block j, till the 128th is made of the modulus.
func TestTweaksOfOne(t *testing.T) {
	for j, k := range tweak.Tweaks(api.Key{1}) {
		want := api.Key{0x87}
		if j < 128 {
			want = api.Key{}
			want[j/8] = 1 << (j % 8)
		}
		if k != want {
			t.Errorf("%d: %x, want %x", j, k, want)
		}
		if j == 128 {
			break
		}
	}
}

// P6.1: tweaks have no end: more than the greatest text has blocks are there, the number going on.
func TestTweaksGoOn(t *testing.T) {
	first := api.Key{3, 15: 0x91}
	for j, k := range tweak.Tweaks(first) {
		if j == 5000 {
			if want := plainDoubled(first, 5000); k != want {
				t.Errorf("%x, want %x", k, want)
			}
			return
		}
	}
	t.Error("they end")
}

type pair struct {
	j int
	k api.Key
}

// take is the first n pairs, by a loop that is left.
func take(tweaks iter.Seq2[int, api.Key], n int) []pair {
	var pairs []pair
	for j, k := range tweaks {
		pairs = append(pairs, pair{j, k})
		if len(pairs) == n {
			break
		}
	}
	return pairs
}

func plainPairs(first api.Key, n int) []pair {
	var pairs []pair
	for j := range n {
		pairs = append(pairs, pair{j, plainDoubled(first, j)})
	}
	return pairs
}

// P6.1: tweaks that are left anywhere end there; run again they begin anew.
func TestTweaksLeftAndRunAgain(t *testing.T) {
	first := anyBlock(dice())
	want := plainPairs(first, 300)
	tweaks := tweak.Tweaks(first)
	for _, n := range []int{1, 2, 3, 127, 128, 129, 130, 255, 256, 300, 1} {
		if pairs := take(tweaks, n); !slices.Equal(pairs, want[:n]) {
			t.Errorf("left behind %d: %v", n, pairs)
		}
	}
	calls := 0
	tweaks(func(int, api.Key) bool { calls++; return calls < 7 })
	if calls != 7 {
		t.Errorf("left behind 7 calls: %d", calls)
	}
}

// P6.1: tweaks within themselves, and two runs step by step, know nothing of one another.
func TestTweaksWithinThemselves(t *testing.T) {
	first := anyBlock(dice())
	want := plainPairs(first, 6)
	tweaks := tweak.Tweaks(first)
	for j, k := range tweaks {
		if inner := take(tweaks, 6); (pair{j, k}) != want[j] || !slices.Equal(inner, want) {
			t.Errorf("within %d: %x, %v", j, k, inner)
		}
		if j == 5 {
			break
		}
		clear(k[:])
	}
	one, stopOne := iter.Pull2(tweaks)
	two, stopTwo := iter.Pull2(tweaks)
	defer stopOne()
	defer stopTwo()
	for i := range want {
		if j, k, ok := one(); (pair{j, k}) != want[i] || !ok {
			t.Errorf("one, %d: %d, %x, %v", i, j, k, ok)
		}
		if i%2 == 0 {
			continue
		}
		if j, k, ok := two(); (pair{j, k}) != want[i/2] || !ok {
			t.Errorf("two, %d: %d, %x, %v", i/2, j, k, ok)
		}
	}
}

// P6.1: blocks hidden and shown with any tweak, with short keys and long ones.
func TestHideBlockAndShowBlock(t *testing.T) {
	r := dice()
	for i := range 200 {
		key, w, k := anyBytes(r, 16+16*(i%2)), anyBlock(r), anyBlock(r)
		switch i / 2 {
		case 0:
			w = api.Key{}
		case 1:
			k = api.Key{}
		case 2:
			w, k = api.Key{}, api.Key{}
			clear(key)
		case 3:
			k = w
		}
		if h, err := tweak.HideBlock(key, w, k); h != plainHideBlock(key, w, k) || err != nil {
			t.Errorf("HideBlock(%x, %x, %x): %x, %v", key, w, k, h, err)
		}
		if s, err := tweak.ShowBlock(key, w, k); s != plainShowBlock(key, w, k) || err != nil {
			t.Errorf("ShowBlock(%x, %x, %x): %x, %v", key, w, k, s, err)
		}
	}
}

// P6.1: texts of all sizes around whole blocks, with short keys and long ones, as any sector.
func TestHideAndShow(t *testing.T) {
	r := dice()
	for i, size := range slices.Concat(textSizes, textSizes) {
		n := numbers[i%len(numbers)]
		for _, half := range []int{16, 32} {
			key, text := anyBytes(r, 2*half), anyBytes(r, size)
			hidden := plainHide(key, n, text)
			if h, err := tweak.Hide(key, n, text); !bytes.Equal(h, hidden) || err != nil {
				t.Errorf("Hide, a key of %d, sector %d, %d bytes: %x, %v, want %x", 2*half, n, size, h, err, hidden)
			}
			if s, err := tweak.Show(key, n, hidden); !bytes.Equal(s, text) || err != nil {
				t.Errorf("Show, a key of %d, sector %d, %d bytes: %x, %v, want %x", 2*half, n, size, s, err, text)
			}
		}
	}
}

// P6.1: every number, with texts of one block, of two, and with bytes left.
func TestHideAndShowAsEachSector(t *testing.T) {
	r := dice()
	for _, n := range append(numbers, int(r.Uint64()), int(r.Uint64())) {
		for _, size := range []int{16, 17, 31, 32, 33, 47, 48} {
			for _, half := range []int{16, 32} {
				key, text := anyBytes(r, 2*half), anyBytes(r, size)
				hidden := plainHide(key, n, text)
				h, err := tweak.Hide(key, n, text)
				s, err2 := tweak.Show(key, n, hidden)
				if !bytes.Equal(h, hidden) || !bytes.Equal(s, text) || err != nil || err2 != nil {
					t.Errorf("a key of %d, sector %d, %d bytes: %x, %v, %x, %v", 2*half, n, size, h, err, s, err2)
				}
			}
		}
	}
}

// P6.1: the greatest texts.
func TestGreatTexts(t *testing.T) {
	r := dice()
	for i, size := range greatSizes {
		key, text := anyBytes(r, 32+32*(i%2)), anyBytes(r, size)
		hidden := plainHide(key, i, text)
		if h, err := tweak.Hide(key, i, text); !bytes.Equal(h, hidden) || err != nil {
			t.Errorf("Hide, %d bytes: %d of them, %v", size, len(h), err)
		}
		if s, err := tweak.Show(key, i, hidden); !bytes.Equal(s, text) || err != nil {
			t.Errorf("Show, %d bytes: %d of them, %v", size, len(s), err)
		}
	}
}

// P6.1: texts of noughts, and others whose blocks are all the same, are hidden as any.
func TestTextsOfLikeBlocks(t *testing.T) {
	for _, b := range []byte{0, 1, 0x80, 0xff} {
		for _, size := range []int{16, 17, 32, 47, 80, 95} {
			key, text := bytes.Repeat([]byte{b}, 64), bytes.Repeat([]byte{b}, size)
			if h, err := tweak.Hide(key, int(b), text); !bytes.Equal(h, plainHide(key, int(b), text)) || err != nil {
				t.Errorf("%d bytes %d: %x, %v", size, b, h, err)
			}
		}
	}
}

// P6.1: the first key is for blocks, the second one for tweaks, and both are asked.
func TestHalvesOfTheKey(t *testing.T) {
	r := dice()
	for _, half := range []int{16, 32} {
		key, text := anyBytes(r, 2*half), anyBytes(r, 32)
		swapped := slices.Concat(key[half:], key[:half])
		h, err := tweak.Hide(key, 5, text)
		if other, err2 := tweak.Hide(swapped, 5, text); bytes.Equal(h, other) || err != nil || err2 != nil {
			t.Errorf("halves of %d swapped: %x, %x, %v, %v", half, h, other, err, err2)
		}
		for _, at := range []int{0, half - 1, half, 2*half - 1} {
			changed := slices.Clone(key)
			changed[at] ^= 1
			if other, _ := tweak.Hide(changed, 5, text); bytes.Equal(h[:16], other[:16]) || bytes.Equal(h[16:], other[16:]) {
				t.Errorf("a key of %d bytes, byte %d changed: a block is the same", 2*half, at)
			}
		}
	}
}

// P6.1: keys of every other length are refused, and everything else that is answered is its zero value.
func TestNoGoodKeyOfBlocks(t *testing.T) {
	w, k := api.Key{4, 5}, api.Key{1, 2, 3}
	for _, key := range badKeys(16, 32) {
		for _, n := range []int{0, 1, -1, math.MaxInt, math.MinInt} {
			if a, err := tweak.Tweak(key, n); a != (api.Key{}) || err != api.ErrKey {
				t.Errorf("Tweak, a key of %d: %x, %v", len(key), a, err)
			}
		}
		if h, err := tweak.HideBlock(key, w, k); h != (api.Key{}) || err != api.ErrKey {
			t.Errorf("HideBlock, a key of %d: %x, %v", len(key), h, err)
		}
		if s, err := tweak.ShowBlock(key, w, k); s != (api.Key{}) || err != api.ErrKey {
			t.Errorf("ShowBlock, a key of %d: %x, %v", len(key), s, err)
		}
	}
}

// P6.1: keys of sectors of every other length are refused, with good texts and with bad ones: the key is told first.
func TestNoGoodKeyOfSectors(t *testing.T) {
	texts := append(badTexts(), make([]byte, 16), make([]byte, 17), make([]byte, 1<<16))
	for _, key := range badKeys(32, 64) {
		for _, text := range texts {
			if h, err := tweak.Hide(key, 1, text); len(h) != 0 || err != api.ErrKey {
				t.Errorf("Hide, a key of %d, %d bytes: %x, %v", len(key), len(text), h, err)
			}
			if s, err := tweak.Show(key, 1, text); len(s) != 0 || err != api.ErrKey {
				t.Errorf("Show, a key of %d, %d bytes: %x, %v", len(key), len(text), s, err)
			}
		}
	}
}

// P6.1: texts of too few bytes, or too many, are refused.
func TestNoGoodText(t *testing.T) {
	for _, size := range []int{32, 64} {
		key := ramp(size)
		for _, text := range badTexts() {
			for _, n := range []int{0, -1, math.MaxInt} {
				if h, err := tweak.Hide(key, n, text); len(h) != 0 || err != api.ErrForm {
					t.Errorf("Hide, a key of %d, %d bytes: %d of them, %v", size, len(text), len(h), err)
				}
				if s, err := tweak.Show(key, n, text); len(s) != 0 || err != api.ErrForm {
					t.Errorf("Show, a key of %d, %d bytes: %d of them, %v", size, len(text), len(s), err)
				}
			}
		}
	}
}

// undone tells where Show and Hide don't undo one another, or hide nothing.
func undone(t *testing.T, key []byte, n int, text []byte) {
	t.Helper()
	h, err := tweak.Hide(key, n, text)
	if s, err2 := tweak.Show(key, n, h); !bytes.Equal(s, text) || err != nil || err2 != nil {
		t.Errorf("Show(Hide), a key of %d, sector %d, %d bytes: %v, %v", len(key), n, len(text), err, err2)
	}
	s, err := tweak.Show(key, n, text)
	if h, err2 := tweak.Hide(key, n, s); !bytes.Equal(h, text) || err != nil || err2 != nil {
		t.Errorf("Hide(Show), a key of %d, sector %d, %d bytes: %v, %v", len(key), n, len(text), err, err2)
	}
	if bytes.Equal(h, text) || bytes.Equal(s, text) || bytes.Equal(h, s) {
		t.Errorf("a key of %d, sector %d, %d bytes: nothing is hidden", len(key), n, len(text))
	}
}

// P6.2: Show undoes Hide and Hide Show, for texts of all sizes.
func TestShowAndHideUndoOneAnother(t *testing.T) {
	r := dice()
	for i, size := range textSizes {
		for _, half := range []int{16, 32} {
			undone(t, anyBytes(r, 2*half), numbers[i%len(numbers)], anyBytes(r, size))
		}
	}
	undone(t, anyBytes(r, 32), -5, anyBytes(r, 1<<16))
	undone(t, anyBytes(r, 64), 5, anyBytes(r, 1<<16-1))
}

// P6.2: ShowBlock undoes HideBlock and HideBlock ShowBlock, with any tweak.
func TestShowBlockAndHideBlockUndoOneAnother(t *testing.T) {
	r := dice()
	for i := range 100 {
		key, w, k := anyBytes(r, 16+16*(i%2)), anyBlock(r), anyBlock(r)
		h, err := tweak.HideBlock(key, w, k)
		if s, err2 := tweak.ShowBlock(key, w, h); s != k || err != nil || err2 != nil {
			t.Errorf("ShowBlock(HideBlock(%x)): %x, %v, %v", k, s, err, err2)
		}
		s, err := tweak.ShowBlock(key, w, k)
		if h, err2 := tweak.HideBlock(key, w, s); h != k || err != nil || err2 != nil {
			t.Errorf("HideBlock(ShowBlock(%x)): %x, %v, %v", k, h, err, err2)
		}
	}
}

// P6.2: what is hidden as one sector isn't shown as another one, nor with another key.
func TestShownAsAnother(t *testing.T) {
	r := dice()
	for _, size := range []int{16, 17, 31, 32, 33, 128} {
		key, text := anyBytes(r, 64), anyBytes(r, size)
		seen := map[string]int{}
		for _, n := range numbers {
			h, _ := tweak.Hide(key, n, text)
			if m, ok := seen[string(h)]; ok {
				t.Errorf("%d bytes: sectors %d and %d are hidden alike", size, m, n)
			}
			seen[string(h)] = n
			if s, err := tweak.Show(key, n^1, h); bytes.Equal(s, text) || err != nil {
				t.Errorf("%d bytes, sector %d: shown as %d, %v", size, n, n^1, err)
			}
			if s, err := tweak.Show(anyBytes(r, 64), n, h); bytes.Equal(s, text) || err != nil {
				t.Errorf("%d bytes, sector %d: shown with another key, %v", size, n, err)
			}
		}
	}
}

// P6.3: what is hidden, or shown, has as many bytes as the text.
func TestAsManyBytes(t *testing.T) {
	key := ramp(32)
	sizes := []int{1 << 12, 1<<12 + 1, 1<<16 - 1, 1 << 16}
	for size := 16; size <= 300; size++ {
		sizes = append(sizes, size)
	}
	for _, size := range sizes {
		h, err := tweak.Hide(key, size, make([]byte, size))
		s, err2 := tweak.Show(key, size, make([]byte, size))
		if len(h) != size || len(s) != size || err != nil || err2 != nil {
			t.Errorf("%d bytes: %d, %d, %v, %v", size, len(h), len(s), err, err2)
		}
	}
}

// P6.3: of whole blocks each is hidden as by HideBlock, with the tweak of its place, and shown as by ShowBlock.
func TestEachBlockByItself(t *testing.T) {
	r := dice()
	for _, half := range []int{16, 32} {
		for _, blocks := range []int{1, 2, 3, 8, 140} {
			key, text := anyBytes(r, 2*half), anyBytes(r, 16*blocks)
			h, err := tweak.Hide(key, 7, text)
			s, err2 := tweak.Show(key, 7, text)
			first, err3 := tweak.Tweak(key[half:], 7)
			if err != nil || err2 != nil || err3 != nil {
				t.Fatal(err, err2, err3)
			}
			for j, w := range tweak.Tweaks(first) {
				if j == blocks {
					break
				}
				k := api.Key(text[16*j:])
				if c, err := tweak.HideBlock(key[:half], w, k); c != api.Key(h[16*j:]) || err != nil {
					t.Errorf("%d blocks, block %d, hidden: %x, %v", blocks, j, c, err)
				}
				if c, err := tweak.ShowBlock(key[:half], w, k); c != api.Key(s[16*j:]) || err != nil {
					t.Errorf("%d blocks, block %d, shown: %x, %v", blocks, j, c, err)
				}
			}
		}
	}
}

// unlike are the blocks in which two rows of whole blocks differ.
func unlike(a, b []byte) []int {
	var all []int
	for at := 0; at < len(a); at += 16 {
		if !bytes.Equal(a[at:at+16], b[at:at+16]) {
			all = append(all, at/16)
		}
	}
	return all
}

// P6.3: of whole blocks, one that is changed changes itself alone, and blocks behind a text change nothing ahead of them.
func TestOneBlockChanged(t *testing.T) {
	r := dice()
	for _, blocks := range []int{1, 2, 3, 8} {
		key, text := anyBytes(r, 64), anyBytes(r, 16*blocks)
		h, _ := tweak.Hide(key, 3, text)
		s, _ := tweak.Show(key, 3, text)
		for i := range text {
			changed := slices.Clone(text)
			changed[i] ^= 1 << (i % 8)
			h2, _ := tweak.Hide(key, 3, changed)
			s2, _ := tweak.Show(key, 3, changed)
			if want := []int{i / 16}; !slices.Equal(unlike(h, h2), want) || !slices.Equal(unlike(s, s2), want) {
				t.Errorf("%d blocks, byte %d: hidden %v, shown %v", blocks, i, unlike(h, h2), unlike(s, s2))
			}
		}
		longer, _ := tweak.Hide(key, 3, append(slices.Clone(text), anyBytes(r, 48)...))
		if !bytes.HasPrefix(longer, h) {
			t.Errorf("%d blocks, with more behind them: %x, want %x", blocks, longer, h)
		}
	}
}

// P6.3: like blocks in unlike places are hidden unlike.
func TestLikeBlocksAreHiddenUnlike(t *testing.T) {
	h, err := tweak.Hide(ramp(64), 0, make([]byte, 16*300))
	if err != nil {
		t.Fatal(err)
	}
	seen := map[string]bool{}
	for c := range slices.Chunk(h, 16) {
		if seen[string(c)] {
			t.Errorf("%x again", c)
		}
		seen[string(c)] = true
	}
}

// P6.3: where bytes are left, all blocks ahead of the last whole one are hidden by themselves all the same.
func TestBlocksAheadOfBytesLeft(t *testing.T) {
	r := dice()
	for _, blocks := range []int{1, 2, 3, 8} {
		key, text := anyBytes(r, 32), anyBytes(r, 16*blocks+15)
		whole, _ := tweak.Hide(key, 9, text[:16*blocks])
		for left := 1; left < 16; left++ {
			h, err := tweak.Hide(key, 9, text[:16*blocks+left])
			if len(h) != 16*blocks+left || err != nil {
				t.Fatalf("%d blocks and %d bytes: %x, %v", blocks, left, h, err)
			}
			if !bytes.Equal(h[:16*(blocks-1)], whole[:16*(blocks-1)]) {
				t.Errorf("%d blocks and %d bytes: %x, alone %x", blocks, left, h, whole)
			}
			if last := whole[16*(blocks-1):]; !bytes.Equal(h[16*blocks:], last[:left]) {
				t.Errorf("%d blocks and %d bytes: the last bytes %x, alone %x", blocks, left, h[16*blocks:], last)
			}
		}
	}
}

// P6.4: keys and texts, and all room behind them, stay as they are, whether the call is refused or not.
func TestNothingHandedInIsChanged(t *testing.T) {
	r := dice()
	for _, size := range []int{0, 15, 16, 17, 24, 31, 32, 33, 48, 63, 64, 65} {
		for _, n := range []int{0, 1, 15, 16, 17, 31, 32, 33, 47, 48} {
			keyRoom, textRoom := anyBytes(r, size+100), anyBytes(r, n+100)
			keyBefore, textBefore := slices.Clone(keyRoom), slices.Clone(textRoom)
			key, text := keyRoom[:size], textRoom[:n]
			w, k := anyBlock(r), anyBlock(r)
			wBefore, kBefore := w, k
			tweak.Tweak(key, n)
			tweak.HideBlock(key, w, k)
			tweak.ShowBlock(key, w, k)
			tweak.Hide(key, n, text)
			tweak.Show(key, n, text)
			take(tweak.Tweaks(w), 3)
			if !bytes.Equal(keyRoom, keyBefore) || !bytes.Equal(textRoom, textBefore) || w != wBefore || k != kBefore {
				t.Errorf("a key of %d, %d bytes: something was changed", size, n)
			}
		}
	}
}

// P6.4: a key and a text that share memory are told apart, and stay as they are.
func TestKeyAndTextThatShare(t *testing.T) {
	room := anyBytes(dice(), 200)
	before := slices.Clone(room)
	for _, half := range []int{16, 32} {
		for _, at := range []int{0, 1, 16, 2*half - 1} {
			for _, size := range []int{16, 31, 32, 95} {
				key, text := room[:2*half], room[at:at+size]
				hidden := plainHide(before[:2*half], at, before[at:at+size])
				h, err := tweak.Hide(key, at, text)
				s, err2 := tweak.Show(key, at, hidden)
				if !bytes.Equal(h, hidden) || !bytes.Equal(s, text) || err != nil || err2 != nil || !bytes.Equal(room, before) {
					t.Errorf("a key of %d, %d bytes from %d on: %x, %v, %x, %v", 2*half, size, at, h, err, s, err2)
				}
			}
		}
	}
}

// P6.4: what is answered is new memory, with its room: changing it changes no argument and no other answer.
func TestAnswersAreNew(t *testing.T) {
	r := dice()
	for _, size := range []int{16, 17, 31, 32, 33, 47, 48, 128, 1 << 12} {
		for name, call := range map[string]func([]byte, int, []byte) ([]byte, error){"Hide": tweak.Hide, "Show": tweak.Show} {
			key, text := anyBytes(r, 64), anyBytes(r, size+64)
			keyBefore, textBefore := slices.Clone(key), slices.Clone(text)
			first, _ := call(key, 4, text[:size])
			second, _ := call(key, 4, text[:size])
			want := slices.Clone(second)
			first = first[:cap(first)]
			for i := range first {
				first[i] ^= 0xff
			}
			if !bytes.Equal(second, want) || !bytes.Equal(key, keyBefore) || !bytes.Equal(text, textBefore) {
				t.Errorf("%s, %d bytes: an argument or another answer was changed", name, size)
			}
			if third, err := call(key, 4, text[:size]); !bytes.Equal(third, want) || err != nil {
				t.Errorf("%s, %d bytes: a later answer was changed: %x, %v", name, size, third, err)
			}
		}
	}
}

// P6.4: keys and texts that are changed behind a call change nothing that was answered, nor anything that is asked later.
func TestNothingHandedInIsKept(t *testing.T) {
	r := dice()
	for _, size := range []int{16, 17, 32, 47} {
		key, text := anyBytes(r, 32), anyBytes(r, size)
		hidden := plainHide(key, 2, text)
		h, _ := tweak.Hide(key, 2, text)
		s, _ := tweak.Show(key, 2, hidden)
		want := slices.Clone(text)
		clear(key)
		clear(text)
		if !bytes.Equal(h, hidden) || !bytes.Equal(s, want) {
			t.Errorf("%d bytes: an answer was changed", size)
		}
		if h, err := tweak.Hide(key, 2, text); !bytes.Equal(h, plainHide(key, 2, text)) || err != nil {
			t.Errorf("%d bytes: a key or a text was kept: %x, %v", size, h, err)
		}
	}
	first := anyBlock(r)
	want := plainPairs(first, 5)
	tweaks := tweak.Tweaks(first)
	clear(first[:])
	if pairs := take(tweaks, 5); !slices.Equal(pairs, want) {
		t.Errorf("tweaks of a block that was changed: %v", pairs)
	}
}

// What a call answers hangs on its arguments alone, not on calls ahead of it, also where those were refused.
func TestCallsKeepNothing(t *testing.T) {
	r := dice()
	key, text := anyBytes(r, 64), anyBytes(r, 45)
	hidden, first := plainHide(key, 8, text), plainTweak(key[:32], 8)
	for _, size := range []int{0, 16, 31, 32, 48, 64} {
		other := anyBytes(r, size)
		tweak.Tweak(other, 9)
		tweak.HideBlock(other, anyBlock(r), anyBlock(r))
		tweak.ShowBlock(other, anyBlock(r), anyBlock(r))
		tweak.Hide(other, 9, anyBytes(r, size))
		tweak.Show(other, 9, anyBytes(r, size+5))
		take(tweak.Tweaks(anyBlock(r)), size+1)
		h, err := tweak.Hide(key, 8, text)
		s, err2 := tweak.Show(key, 8, hidden)
		w, err3 := tweak.Tweak(key[:32], 8)
		if !bytes.Equal(h, hidden) || !bytes.Equal(s, text) || w != first || err != nil || err2 != nil || err3 != nil {
			t.Errorf("behind a key of %d bytes: %x, %x, %x, %v, %v, %v", size, h, s, w, err, err2, err3)
		}
	}
}
