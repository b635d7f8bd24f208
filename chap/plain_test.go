package chap_test

import (
	"bytes"
	"crypto/hmac"
	"crypto/sha256"
	"math"
	"math/big"
	"math/rand/v2"

	"citadel/api"
)

// The chapter's words, made plainly, without a call of the program.

// plainEight is a number as eight bytes in two's complement, by a library of great numbers.
func plainEight(n int) []byte {
	all := new(big.Int).Lsh(big.NewInt(1), 64)
	return new(big.Int).Mod(big.NewInt(int64(n)), all).FillBytes(make([]byte, 8))
}

// plainText is the text that an answer is the digest of.
func plainText(id int, secret, challenge []byte) []byte {
	one := new(big.Int).Mod(big.NewInt(int64(id)), big.NewInt(256)).FillBytes(make([]byte, 1))
	return bytes.Join([][]byte{one, secret, challenge}, nil)
}

func plainAnswer(id int, secret, challenge []byte) api.Sum {
	return sha256.Sum256(plainText(id, secret, challenge))
}

func plainDraw(seed, n int) api.Sum {
	hash := hmac.New(sha256.New, plainEight(seed))
	hash.Write([]byte{0x64, 0x72, 0x61, 0x77})
	hash.Write(plainEight(n))
	return api.Sum(hash.Sum(nil))
}

// plainFresh is the bytes, and the number behind the last draw that they need.
func plainFresh(seed, from, many int) ([]byte, int) {
	if many < 1 || many > 4096 {
		return nil, from
	}
	var fresh []byte
	for len(fresh) < many {
		draw := plainDraw(seed, from)
		fresh = append(fresh, draw[:]...)
		from++
	}
	return fresh[:many], from
}

// numbers are edges of seeds and of draws' numbers: each byte of the eight counts in one of them, and behind some of them they go on behind the greatest.
var numbers = []int{
	0, 1, 2, 255, 256, 1<<16 - 1, 1 << 16, 1 << 24, 1<<31 - 1, 1 << 31, 1<<32 - 1, 1 << 32, 1 << 40, 1 << 48, 1 << 56, 0x0102030405060708,
	math.MaxInt - 4096, math.MaxInt - 4095, math.MaxInt - 128, math.MaxInt - 127, math.MaxInt - 3, math.MaxInt - 1, math.MaxInt,
	-1, -2, -3, -128, -255, -256, -257, -4096, -1 << 32, math.MinInt + 4095, math.MinInt + 1, math.MinInt,
}

// ids are edges of answers' numbers, which are taken modulo 256.
var ids = []int{0, 1, 2, 127, 128, 254, 255, 256, 257, 511, 512, 1 << 16, 1<<32 + 7, -1, -2, -128, -255, -256, -257, math.MaxInt, math.MaxInt - 255, math.MinInt, math.MinInt + 1}

// sizes are lengths of secrets and challenges, those around which a text needs one more piece of the digest among them.
var sizes = []int{0, 1, 2, 15, 16, 27, 28, 31, 32, 33, 54, 55, 56, 63, 64, 65, 119, 120, 128, 200, 4096, 65535, 65536}

func dice(seed uint64) *rand.Rand { return rand.New(rand.NewPCG(16, seed)) }

func anyBytes(r *rand.Rand, n int) []byte {
	b := make([]byte, n)
	for i := range b {
		b[i] = byte(r.Uint32())
	}
	return b
}

// anyNumber is a number of few bits or of many.
func anyNumber(r *rand.Rand) int {
	return int(r.Uint64()) >> r.IntN(64)
}

// roomy is the bytes, with room behind them that isn't noughts, and the whole of it.
func roomy(b []byte) ([]byte, []byte) {
	room := append(bytes.Clone(b), bytes.Repeat([]byte{0xa5}, 40)...)
	return room[:len(b)], room
}
