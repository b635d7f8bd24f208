package cipher_test

import (
	"bytes"
	"crypto/aes"
	"encoding/hex"
	"math/bits"
	"math/rand/v2"
	"slices"
	"testing"

	"citadel/api"
	"citadel/cipher"
)

// A plain cipher by the chapter's words, on tables of four rows and four columns, without a call of the layers below.

type table [4][4]byte // by row, by column

func toTable(k api.Key) table {
	var t table
	for i, b := range k {
		t[i%4][i/4] = b
	}
	return t
}

func fromTable(t table) api.Key {
	var k api.Key
	for i := range k {
		k[i] = t[i%4][i/4]
	}
	return k
}

func plainMul(a, b byte) byte {
	product := 0
	for i := range 8 {
		if b>>i&1 == 1 {
			product ^= int(a) << i
		}
	}
	for i := 14; i >= 8; i-- {
		if product>>i&1 == 1 {
			product ^= 0x11b << (i - 8)
		}
	}
	return byte(product)
}

// substitutes are found once, since an inverse is looked for among all bytes.
var substitutes = func() (all [256]byte) {
	for b := range 256 {
		inverse := 0
		for i := range 256 {
			if plainMul(byte(b), byte(i)) == 1 {
				inverse = i
			}
		}
		all[b] = 0x63
		for n := range 5 {
			all[b] ^= bits.RotateLeft8(byte(inverse), n)
		}
	}
	return all
}()

func plainShift(t table) table {
	var out table
	for r := range 4 {
		for c := range 4 {
			out[r][c] = t[r][(c+r)%4]
		}
	}
	return out
}

func plainColumn(w, row [4]byte) [4]byte {
	var out [4]byte
	for k := range 4 {
		for range 4 {
			out[k] ^= plainMul(w[0], row[0])
			w = [4]byte{w[1], w[2], w[3], w[0]}
			row = [4]byte{row[1], row[2], row[3], row[0]}
		}
		row = [4]byte{row[3], row[0], row[1], row[2]}
	}
	return out
}

func plainMix(w [4]byte) [4]byte   { return plainColumn(w, [4]byte{2, 3, 1, 1}) }
func plainUnmix(w [4]byte) [4]byte { return plainColumn(w, [4]byte{14, 11, 13, 9}) }

func plainEncrypt(rounds []api.Key, k api.Key) api.Key {
	if len(rounds) == 0 {
		return k
	}
	t := toTable(k)
	plainAdd(&t, rounds[0])
	for i := 1; i < len(rounds); i++ {
		for r := range t {
			for c, b := range t[r] {
				t[r][c] = substitutes[b]
			}
		}
		t = plainShift(t)
		for c := range 4 {
			if i < len(rounds)-1 {
				w := plainMix([4]byte{t[0][c], t[1][c], t[2][c], t[3][c]})
				t[0][c], t[1][c], t[2][c], t[3][c] = w[0], w[1], w[2], w[3]
			}
		}
		plainAdd(&t, rounds[i])
	}
	return fromTable(t)
}

func plainAdd(t *table, round api.Key) {
	for i, b := range round {
		t[i%4][i/4] ^= b
	}
}

// plainRounds makes round keys word after word, as the chapter tells it.
func plainRounds(key []byte) []api.Key {
	n := len(key) / 4
	words := [][4]byte{}
	constant := byte(1)
	for i := range 4 * (n + 7) {
		if i < n {
			words = append(words, [4]byte(key[4*i:]))
			continue
		}
		t := words[i-1]
		if i%n == 0 {
			t = [4]byte{substitutes[t[1]] ^ constant, substitutes[t[2]], substitutes[t[3]], substitutes[t[0]]}
			constant = plainMul(constant, 2)
		} else if n == 8 && i%8 == 4 {
			t = [4]byte{substitutes[t[0]], substitutes[t[1]], substitutes[t[2]], substitutes[t[3]]}
		}
		for b := range t {
			t[b] ^= words[i-n][b]
		}
		words = append(words, t)
	}
	var rounds []api.Key
	for at := 0; at < len(words); at += 4 {
		rounds = append(rounds, api.Key(slices.Concat(words[at][:], words[at+1][:], words[at+2][:], words[at+3][:])))
	}
	return rounds
}

func raw(t *testing.T, text string) []byte {
	t.Helper()
	b, err := hex.DecodeString(text)
	if err != nil {
		t.Fatal(err)
	}
	return b
}

func block(t *testing.T, text string) api.Key {
	t.Helper()
	return api.Key(raw(t, text))
}

func dice() *rand.Rand { return rand.New(rand.NewPCG(3, 1)) }

func anyBlock(r *rand.Rand) api.Key {
	var k api.Key
	for i := range k {
		k[i] = byte(r.Uint32())
	}
	return k
}

func anyBytes(r *rand.Rand, n int) []byte {
	b := make([]byte, n)
	for i := range b {
		b[i] = byte(r.Uint32())
	}
	return b
}

func anyRounds(r *rand.Rand, n int) []api.Key {
	var rounds []api.Key
	for range n {
		rounds = append(rounds, anyBlock(r))
	}
	return rounds
}

// counts are numbers of round keys: none, one, few, those of keys, and more than a key has.
var counts = []int{0, 1, 2, 3, 4, 10, 11, 12, 14, 15, 16, 17, 40, 61, 100, 300}

// P3.1: the chapter's example.
func TestExample(t *testing.T) {
	key := raw(t, "000102030405060708090a0b0c0d0e0f")
	plain, hidden := block(t, "00112233445566778899aabbccddeeff"), block(t, "69c4e0d86a7b0430d8cdb78070b4c55a")
	if c, err := cipher.Seal(key, plain); c != hidden || err != nil {
		t.Errorf("Seal: %x, %v", c, err)
	}
	if b, err := cipher.Open(key, hidden); b != plain || err != nil {
		t.Errorf("Open: %x, %v", b, err)
	}
}

// P3.1: the published examples with keys of 16 and of 32 bytes.
func TestPublished(t *testing.T) {
	const short, long = "2b7e151628aed2a6abf7158809cf4f3c", "603deb1015ca71be2b73aef0857d77811f352c073b6108d72d9810a30914dff4"
	for _, c := range []struct{ key, plain, hidden string }{
		{"000102030405060708090a0b0c0d0e0f101112131415161718191a1b1c1d1e1f", "00112233445566778899aabbccddeeff", "8ea2b7ca516745bfeafc49904b496089"},
		{short, "3243f6a8885a308d313198a2e0370734", "3925841d02dc09fbdc118597196a0b32"},
		{short, "6bc1bee22e409f96e93d7e117393172a", "3ad77bb40d7a3660a89ecaf32466ef97"},
		{short, "ae2d8a571e03ac9c9eb76fac45af8e51", "f5d3d58503b9699de785895a96fdbaaf"},
		{short, "30c81c46a35ce411e5fbc1191a0a52ef", "43b1cd7f598ece23881b00e3ed030688"},
		{short, "f69f2445df4f9b17ad2b417be66c3710", "7b0c785e27e8ad3f8223207104725dd4"},
		{long, "6bc1bee22e409f96e93d7e117393172a", "f3eed1bdb5d2a03c064b5a7e3db181f8"},
		{long, "ae2d8a571e03ac9c9eb76fac45af8e51", "591ccb10d410ed26dc5ba74a31362870"},
		{long, "30c81c46a35ce411e5fbc1191a0a52ef", "b6ed21b99ca6f4f9f153e7b1beafed1d"},
		{long, "f69f2445df4f9b17ad2b417be66c3710", "23304b7a39f9f3ff067d8d8f9e24ecc7"},
	} {
		if s, err := cipher.Seal(raw(t, c.key), block(t, c.plain)); s != block(t, c.hidden) || err != nil {
			t.Errorf("Seal(%s, %s): %x, %v", c.key, c.plain, s, err)
		}
		if o, err := cipher.Open(raw(t, c.key), block(t, c.hidden)); o != block(t, c.plain) || err != nil {
			t.Errorf("Open(%s, %s): %x, %v", c.key, c.hidden, o, err)
		}
	}
}

// P3.1: many keys and blocks, held against another make of the same cipher.
func TestSealAndOpenAgainstAnotherMake(t *testing.T) {
	r := dice()
	for i := range 100 {
		key, k := anyBytes(r, 16+16*(i%2)), anyBlock(r)
		other, err := aes.NewCipher(key)
		if err != nil {
			t.Fatal(err)
		}
		var hidden, shown api.Key
		other.Encrypt(hidden[:], k[:])
		other.Decrypt(shown[:], k[:])
		if s, err := cipher.Seal(key, k); s != hidden || err != nil {
			t.Errorf("Seal(%x, %x): %x, %v, want %x", key, k, s, err, hidden)
		}
		if o, err := cipher.Open(key, k); o != shown || err != nil {
			t.Errorf("Open(%x, %x): %x, %v, want %x", key, k, o, err, shown)
		}
	}
}

// P3.1: every byte of a table stands where its row's shift brings it.
func TestShiftAndUnshift(t *testing.T) {
	var k api.Key
	for i := range k {
		k[i] = byte(i)
	}
	if s := cipher.Shift(k); s != (api.Key{0, 5, 10, 15, 4, 9, 14, 3, 8, 13, 2, 7, 12, 1, 6, 11}) {
		t.Errorf("Shift: %x", s)
	}
	if s := cipher.Unshift(k); s != (api.Key{0, 13, 10, 7, 4, 1, 14, 11, 8, 5, 2, 15, 12, 9, 6, 3}) {
		t.Errorf("Unshift: %x", s)
	}
	r := dice()
	for range 100 {
		k := anyBlock(r)
		if s, want := cipher.Shift(k), fromTable(plainShift(toTable(k))); s != want {
			t.Errorf("Shift(%x): %x, want %x", k, s, want)
		}
	}
}

// P3.1: columns of the definition's companions, of each byte alone, and any.
func TestMixAndUnmix(t *testing.T) {
	for column, mixed := range map[[4]byte][4]byte{
		{}:                       {},
		{0xdb, 0x13, 0x53, 0x45}: {0x8e, 0x4d, 0xa1, 0xbc},
		{0xf2, 0x0a, 0x22, 0x5c}: {0x9f, 0xdc, 0x58, 0x9d},
		{0x01, 0x01, 0x01, 0x01}: {0x01, 0x01, 0x01, 0x01},
		{0xc6, 0xc6, 0xc6, 0xc6}: {0xc6, 0xc6, 0xc6, 0xc6},
		{0xd4, 0xd4, 0xd4, 0xd5}: {0xd5, 0xd5, 0xd7, 0xd6},
		{0x2d, 0x26, 0x31, 0x4c}: {0x4d, 0x7e, 0xbd, 0xf8},
		{1, 0, 0, 0}:             {2, 1, 1, 3},
		{0, 1, 0, 0}:             {3, 2, 1, 1},
		{0, 0, 1, 0}:             {1, 3, 2, 1},
		{0, 0, 0, 1}:             {1, 1, 3, 2},
	} {
		if m := cipher.Mix(column); m != mixed {
			t.Errorf("Mix(%x): %x, want %x", column, m, mixed)
		}
		if u := cipher.Unmix(mixed); u != column {
			t.Errorf("Unmix(%x): %x, want %x", mixed, u, column)
		}
	}
	if u := cipher.Unmix([4]byte{1}); u != [4]byte{14, 9, 13, 11} {
		t.Errorf("Unmix: %x", u)
	}
	r := dice()
	for range 300 {
		w := [4]byte(anyBytes(r, 4))
		if m := cipher.Mix(w); m != plainMix(w) {
			t.Errorf("Mix(%x): %x, want %x", w, m, plainMix(w))
		}
		if u := cipher.Unmix(w); u != plainUnmix(w) {
			t.Errorf("Unmix(%x): %x, want %x", w, u, plainUnmix(w))
		}
	}
}

// P3.1: round keys, as the definition prints some of them.
func TestRoundsPublished(t *testing.T) {
	short, err := cipher.Rounds(raw(t, "2b7e151628aed2a6abf7158809cf4f3c"))
	if err != nil || len(short) != 11 {
		t.Fatalf("%d round keys, %v", len(short), err)
	}
	for i, want := range map[int]string{
		0: "2b7e151628aed2a6abf7158809cf4f3c", 1: "a0fafe1788542cb123a339392a6c7605", 2: "f2c295f27a96b9435935807a7359f67f",
		10: "d014f9a8c9ee2589e13f0cc8b6630ca6",
	} {
		if short[i] != block(t, want) {
			t.Errorf("short, %d: %x, want %s", i, short[i], want)
		}
	}
	long, err := cipher.Rounds(raw(t, "603deb1015ca71be2b73aef0857d77811f352c073b6108d72d9810a30914dff4"))
	if err != nil || len(long) != 15 {
		t.Fatalf("%d round keys, %v", len(long), err)
	}
	for i, want := range map[int]string{
		0: "603deb1015ca71be2b73aef0857d7781", 1: "1f352c073b6108d72d9810a30914dff4", 2: "9ba354118e6925afa51a8b5f2067fcde",
		3: "a8b09c1a93d194cdbe49846eb75d5b9a", 14: "fe4890d1e6188d0b046df344706c631e",
	} {
		if long[i] != block(t, want) {
			t.Errorf("long, %d: %x, want %s", i, long[i], want)
		}
	}
}

// P3.1: all round keys of many keys, held against the chapter's words.
func TestRoundsAsTold(t *testing.T) {
	r := dice()
	for i := range 60 {
		key := anyBytes(r, 16+16*(i%2))
		if i < 2 {
			clear(key)
		}
		if rounds, err := cipher.Rounds(key); !slices.Equal(rounds, plainRounds(key)) || err != nil {
			t.Errorf("Rounds(%x): %x, %v", key, rounds, err)
		}
	}
}

// P3.1: keys of every other length are refused, and everything else that is answered is its zero value.
func TestNoGoodKey(t *testing.T) {
	keys := [][]byte{nil, {}, make([]byte, 0, 16), make([]byte, 15, 16), make([]byte, 128), make([]byte, 1<<16), make([]byte, 1<<24)}
	for n := range 100 {
		if n != 16 && n != 32 {
			keys = append(keys, bytes.Repeat([]byte{byte(n)}, n))
		}
	}
	k := api.Key{1, 2, 3}
	for _, key := range keys {
		if rounds, err := cipher.Rounds(key); len(rounds) != 0 || err != api.ErrKey {
			t.Errorf("Rounds of %d bytes: %x, %v", len(key), rounds, err)
		}
		if s, err := cipher.Seal(key, k); s != (api.Key{}) || err != api.ErrKey {
			t.Errorf("Seal with %d bytes: %x, %v", len(key), s, err)
		}
		if o, err := cipher.Open(key, k); o != (api.Key{}) || err != api.ErrKey {
			t.Errorf("Open with %d bytes: %x, %v", len(key), o, err)
		}
	}
}

// P3.1: any round keys, in any number, held against the chapter's words.
func TestEncryptWithAnyRounds(t *testing.T) {
	r := dice()
	for _, n := range counts {
		rounds, k := anyRounds(r, n), anyBlock(r)
		want := plainEncrypt(rounds, k)
		if e := cipher.Encrypt(rounds, k); e != want {
			t.Errorf("Encrypt, %d round keys: %x, want %x", n, e, want)
		}
		if d := cipher.Decrypt(rounds, want); d != k {
			t.Errorf("Decrypt, %d round keys: %x, want %x", n, d, k)
		}
	}
}

// P3.1: with no round key the block itself, with one the exclusive or with it alone.
func TestNoRoundAndOne(t *testing.T) {
	k, round := api.Key{0x0f, 0xf0, 7}, api.Key{0xff, 0xff, 1, 15: 9}
	for _, none := range [][]api.Key{nil, {}, make([]api.Key, 0, 4)} {
		if e, d := cipher.Encrypt(none, k), cipher.Decrypt(none, k); e != k || d != k {
			t.Errorf("none: %x, %x", e, d)
		}
	}
	want := api.Key{0xf0, 0x0f, 6, 15: 9}
	if e, d := cipher.Encrypt([]api.Key{round}, k), cipher.Decrypt([]api.Key{round}, k); e != want || d != want {
		t.Errorf("one: %x, %x", e, d)
	}
}

// P3.1: Seal and Open are Encrypt and Decrypt with the key's round keys.
func TestSealIsEncryptWithRounds(t *testing.T) {
	r := dice()
	for _, n := range []int{16, 32} {
		key, k := anyBytes(r, n), anyBlock(r)
		rounds, _ := cipher.Rounds(key)
		if s, err := cipher.Seal(key, k); s != cipher.Encrypt(rounds, k) || err != nil {
			t.Errorf("Seal, %d: %x, %v", n, s, err)
		}
		if o, err := cipher.Open(key, k); o != cipher.Decrypt(rounds, k) || err != nil {
			t.Errorf("Open, %d: %x, %v", n, o, err)
		}
	}
}

// P3.2: each undoes the other, with any round keys.
func TestEncryptAndDecryptUndoOneAnother(t *testing.T) {
	r := dice()
	for _, n := range counts {
		rounds := anyRounds(r, n)
		for _, k := range []api.Key{{}, {15: 0xff}, anyBlock(r), anyBlock(r)} {
			if d := cipher.Decrypt(rounds, cipher.Encrypt(rounds, k)); d != k {
				t.Errorf("%d round keys, Decrypt(Encrypt(%x)): %x", n, k, d)
			}
			if e := cipher.Encrypt(rounds, cipher.Decrypt(rounds, k)); e != k {
				t.Errorf("%d round keys, Encrypt(Decrypt(%x)): %x", n, k, e)
			}
		}
	}
}

// P3.2: rows shifted and columns mixed come back, both ways round.
func TestUnshiftAndUnmixUndo(t *testing.T) {
	r := dice()
	for range 300 {
		k, w := anyBlock(r), [4]byte(anyBytes(r, 4))
		if a, b := cipher.Unshift(cipher.Shift(k)), cipher.Shift(cipher.Unshift(k)); a != k || b != k {
			t.Errorf("rows of %x: %x, %x", k, a, b)
		}
		if a, b := cipher.Unmix(cipher.Mix(w)), cipher.Mix(cipher.Unmix(w)); a != w || b != w {
			t.Errorf("column %x: %x, %x", w, a, b)
		}
	}
}

// P3.3: keys and round keys, and the room behind them, stay as they are.
func TestNothingHandedInIsChanged(t *testing.T) {
	r := dice()
	for _, n := range []int{0, 15, 16, 17, 24, 32, 33} {
		room := anyBytes(r, 64)
		key, before := room[:n], slices.Clone(room)
		k := anyBlock(r)
		kBefore := k
		cipher.Rounds(key)
		cipher.Seal(key, k)
		cipher.Open(key, k)
		if !bytes.Equal(room, before) || k != kBefore {
			t.Errorf("a key of %d bytes, or its room, or its block, was changed", n)
		}
	}
	for _, n := range counts {
		room := anyRounds(r, n+3)
		rounds, before := room[:n], slices.Clone(room)
		cipher.Encrypt(rounds, room[n])
		cipher.Decrypt(rounds, room[n])
		if !slices.Equal(room, before) {
			t.Errorf("%d round keys, or their room, were changed", n)
		}
	}
}

// P3.3: round keys are new memory: neither a key changed later, nor round keys of another call, change them.
func TestNothingHandedInIsKept(t *testing.T) {
	r := dice()
	for _, n := range []int{16, 32} {
		key := anyBytes(r, n)
		rounds, _ := cipher.Rounds(key)
		want := slices.Clone(rounds)
		again, _ := cipher.Rounds(key)
		clear(again)
		clear(key)
		if !slices.Equal(rounds, want) {
			t.Errorf("round keys of a key of %d bytes changed behind the call", n)
		}
		if fresh, _ := cipher.Rounds(key); slices.Equal(fresh, want) {
			t.Errorf("a key of %d bytes was kept", n)
		}
	}
}

// What a call answers hangs on its arguments alone, not on calls ahead of it.
func TestCallsKeepNothing(t *testing.T) {
	r := dice()
	key, k := anyBytes(r, 32), anyBlock(r)
	first, _ := cipher.Seal(key, k)
	for _, n := range []int{16, 31, 32} {
		cipher.Seal(anyBytes(r, n), anyBlock(r))
		cipher.Open(anyBytes(r, n), anyBlock(r))
	}
	if again, err := cipher.Seal(key, k); again != first || err != nil {
		t.Errorf("%x and then %x, %v", first, again, err)
	}
}
