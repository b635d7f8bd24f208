package chap_test

import (
	"bytes"
	"encoding/hex"
	"iter"
	"math"
	"slices"
	"testing"

	"citadel/api"
	"citadel/chap"
)

const maxDraws = 4096

// drawn is a draw with its number.
type drawn struct {
	n    int
	draw api.Sum
}

// collect is the first draws of an iterator, as many as that, by a loop that is left; all of them, if there aren't so many.
func collect(draws iter.Seq2[int, api.Sum], many int) []drawn {
	var all []drawn
	for n, draw := range draws {
		all = append(all, drawn{n, draw})
		if len(all) == many {
			break
		}
	}
	return all
}

// plainDraws is the draws from a number on.
func plainDraws(seed, from, many int) []drawn {
	var all []drawn
	for range many {
		all = append(all, drawn{from, plainDraw(seed, from)})
		from++
	}
	return all
}

// P16.1: draws that are written out: of the edges of seeds and numbers, and of each byte.
func TestDrawWrittenOut(t *testing.T) {
	for _, x := range []struct {
		seed, n int
		want    string
	}{
		{7, 3, "8bbe5e0df561d53fc230bb8e6ad9ba7135ce90e5d499d5ea1a20ee853cdf23c9"},
		{0, 0, "f697b88126f95f3efcb6b5a07a770213a19d7b0328bdd6a8144a52bdb1c6b5bf"},
		{0, 1, "50165dde97fcabfc8b78d3480ae58aeb0ec4521869c1afeea97b90c689c0bc23"},
		{1, 0, "dd0cb82de0196afa24f218d69665ed1b8503afd7fe089ff2a79a43d5e01f38cb"},
		{-1, 0, "cef4f233836b05241edc7969d1c1d4a0104999d5904ea04028450e63a90aeac1"},
		{0, -1, "cf43362b9a5592c5d195540cba6e423fedcb96143ff1694b65683fddf2888a80"},
		{math.MaxInt, 0, "8b77d1d6555e056fd827f913276e3f0939cc2e26c9cdec502b549eabd51d82ee"},
		{0, math.MaxInt, "d3e48a24773b18bcef100cd6b438135e2047d47a3c14948050fa087bd2a1e757"},
		{math.MinInt, 0, "c3c8a34075a4c571c60e06f4d42c889f2c46a7142d578ff9ccaf59fa6fbc74fc"},
		{0, math.MinInt, "ab508968ba0f799de414485be08c32632eb9b89558d4a8d676c055ba4cd0db22"},
		{-1, -1, "930e78db037391612e0c8448b955736241c603f994ed79035d2a13d9bdaaabe3"},
		{math.MaxInt, math.MaxInt, "6d035569e403c738d78e10452f4231313098bae6f430901969c61c65183e2e36"},
		{math.MinInt, math.MinInt, "25308e0d1132185094dae460ecb827f6482200eb129794578ea7bee8158e618b"},
		{0x0102030405060708, 0x1112131415161718, "fedb4f0741f0edd990d9c9e0a6b47835e7f2fceca9c37d9c065dada35841d877"},
	} {
		draw := chap.Draw(x.seed, x.n)
		if hex.EncodeToString(draw[:]) != x.want {
			t.Errorf("Draw(%d, %d): %x, want %s", x.seed, x.n, draw, x.want)
		}
	}
}

// P16.1: draws of all edges of seeds with all edges of numbers, and of any; all of them unlike.
func TestDraw(t *testing.T) {
	seen := map[api.Sum]int{}
	for _, seed := range numbers {
		for _, n := range numbers {
			draw := chap.Draw(seed, n)
			if want := plainDraw(seed, n); draw != want {
				t.Errorf("Draw(%d, %d): %x, want %x", seed, n, draw, want)
			}
			if seen[draw]++; seen[draw] > 1 {
				t.Errorf("Draw(%d, %d): %x again", seed, n, draw)
			}
		}
	}
	r := dice(4)
	for range 5000 {
		seed, n := anyNumber(r), anyNumber(r)
		if draw, want := chap.Draw(seed, n), plainDraw(seed, n); draw != want {
			t.Errorf("Draw(%d, %d): %x, want %x", seed, n, draw, want)
		}
	}
}

// P16.1: each bit of the seed and of the number counts.
func TestDrawHangsOnEachBit(t *testing.T) {
	seed, n := 0x5a5a5a5a5a5a5a5a, 0x3c3c3c3c3c3c3c3c
	draw := chap.Draw(seed, n)
	for bit := range 64 {
		if chap.Draw(seed^1<<bit, n) == draw || chap.Draw(seed, n^1<<bit) == draw {
			t.Errorf("bit %d doesn't count", bit)
		}
	}
}

// P16.1: draws from a number on, with their numbers, which go on with the least one behind the greatest.
func TestDraws(t *testing.T) {
	for _, seed := range numbers {
		for _, from := range numbers {
			if got, want := collect(chap.Draws(seed, from), 5), plainDraws(seed, from, 5); !slices.Equal(got, want) {
				t.Errorf("Draws(%d, %d): %v, want %v", seed, from, got, want)
			}
		}
	}
	got := collect(chap.Draws(7, math.MaxInt-1), 4)
	for i, n := range []int{math.MaxInt - 1, math.MaxInt, math.MinInt, math.MinInt + 1} {
		if got[i] != (drawn{n, plainDraw(7, n)}) {
			t.Errorf("draw %d: %v, want number %d", i, got[i], n)
		}
	}
}

// P16.1: the draws end behind 4096 of them, wherever they begin, and so they do when they are run again.
func TestDrawsToTheirEnd(t *testing.T) {
	for _, from := range []int{0, 1, -1, -2000, math.MaxInt, math.MaxInt - 4095, math.MaxInt - 4094, math.MinInt, math.MinInt + 1} {
		want := plainDraws(7, from, maxDraws)
		draws := chap.Draws(7, from)
		for run := range 2 {
			if got := collect(draws, 0); !slices.Equal(got, want) {
				t.Errorf("from %d, run %d: %d draws", from, run, len(got))
			}
		}
	}
}

// P16.1: they end where they are left: at once, early, at the last one.
func TestDrawsLeft(t *testing.T) {
	draws := chap.Draws(7, 3)
	for _, leave := range []int{1, 2, 3, 127, 128, 129, 4095, 4096} {
		called := 0
		draws(func(n int, draw api.Sum) bool {
			if n != 3+called {
				t.Errorf("number %d at place %d", n, called)
			}
			called++
			return called < leave
		})
		if called != leave {
			t.Errorf("left at %d, called %d times", leave, called)
		}
	}
}

// P16.1: each run begins anew, also behind one that was left, and within another one; two that are run step by step know nothing of one another.
func TestDrawsRunAgain(t *testing.T) {
	draws := chap.Draws(-5, math.MaxInt-2)
	want := plainDraws(-5, math.MaxInt-2, 6)
	for range draws {
		break
	}
	place := 0
	for n, draw := range draws {
		if (drawn{n, draw}) != want[place] || !slices.Equal(collect(draws, 6), want) {
			t.Errorf("place %d: number %d", place, n)
		}
		if place++; place == 6 {
			break
		}
	}
	one, stopOne := iter.Pull2(draws)
	two, stopTwo := iter.Pull2(chap.Draws(-6, 0))
	defer stopOne()
	defer stopTwo()
	other := plainDraws(-6, 0, 6)
	for i := range want {
		if n, draw, ok := one(); !ok || (drawn{n, draw}) != want[i] {
			t.Errorf("one, place %d: %d %x", i, n, draw)
		}
		if n, draw, ok := two(); !ok || (drawn{n, draw}) != other[i] {
			t.Errorf("two, place %d: %d %x", i, n, draw)
		}
	}
}

// P16.1: bytes of one draw, of several whole ones, of a part of one; the number behind the last draw of which any is used.
func TestFreshWrittenOut(t *testing.T) {
	const three = "8bbe5e0df561d53fc230bb8e6ad9ba7135ce90e5d499d5ea1a20ee853cdf23c9e44cf2ca47694477a5b6a70a25cb26295e5c72c8762cf74302e8c4ff8a43af81c387ebd7249c"
	for _, x := range []struct{ many, behind int }{{1, 4}, {2, 4}, {31, 4}, {32, 4}, {33, 5}, {63, 5}, {64, 5}, {65, 6}, {70, 6}} {
		fresh, behind := chap.Fresh(7, 3, x.many)
		if hex.EncodeToString(fresh) != three[:2*x.many] || behind != x.behind {
			t.Errorf("Fresh(7, 3, %d): %x, %d", x.many, fresh, behind)
		}
	}
	for _, x := range []struct{ from, many, behind int }{
		{0, 1, 1}, {0, 32, 1}, {0, 33, 2}, {0, 4064, 127}, {0, 4065, 128}, {0, 4095, 128}, {0, 4096, 128},
		{-1, 32, 0}, {-1, 33, 1}, {-128, 4096, 0}, {-1, 4095, 127},
		{math.MaxInt, 1, math.MinInt}, {math.MaxInt, 33, math.MinInt + 1}, {math.MaxInt - 1, 31, math.MaxInt}, {math.MaxInt - 1, 64, math.MinInt}, {math.MaxInt, 4096, math.MinInt + 127}, {math.MaxInt - 127, 4096, math.MinInt},
		{math.MinInt, 32, math.MinInt + 1}, {math.MinInt, 4096, math.MinInt + 128},
	} {
		fresh, behind := chap.Fresh(1, x.from, x.many)
		if want, _ := plainFresh(1, x.from, x.many); !bytes.Equal(fresh, want) || behind != x.behind {
			t.Errorf("Fresh(1, %d, %d): %x, %d, want %x, %d", x.from, x.many, fresh, behind, want, x.behind)
		}
	}
}

// P16.1: all numbers of bytes that there are.
func TestFreshOfAllLengths(t *testing.T) {
	whole, _ := plainFresh(7, 3, 4096)
	for many := 1; many <= 4096; many++ {
		fresh, behind := chap.Fresh(7, 3, many)
		if !bytes.Equal(fresh, whole[:many]) || behind != 3+(many+31)/32 {
			t.Errorf("Fresh(7, 3, %d): %d bytes, %d", many, len(fresh), behind)
		}
	}
}

// P16.1: of all edges of seeds and numbers, and of any.
func TestFreshOfAllNumbers(t *testing.T) {
	hold := func(seed, from, many int) {
		fresh, behind := chap.Fresh(seed, from, many)
		if want, wantBehind := plainFresh(seed, from, many); !bytes.Equal(fresh, want) || behind != wantBehind {
			t.Errorf("Fresh(%d, %d, %d): %x, %d, want %x, %d", seed, from, many, fresh, behind, want, wantBehind)
		}
	}
	for _, seed := range numbers {
		for _, from := range numbers {
			for _, many := range []int{1, 31, 32, 33, 64, 100} {
				hold(seed, from, many)
			}
		}
	}
	r := dice(5)
	for range 500 {
		hold(anyNumber(r), anyNumber(r), r.IntN(4300)-100)
	}
}

// P16.1: the bytes go on where others ended, if the number behind is handed in.
func TestFreshGoesOn(t *testing.T) {
	whole, end := plainFresh(7, math.MaxInt-2, 192)
	first, next := chap.Fresh(7, math.MaxInt-2, 64)
	second, behind := chap.Fresh(7, next, 128)
	if !bytes.Equal(slices.Concat(first, second), whole) || behind != end {
		t.Errorf("%x, %x, %d", first, second, behind)
	}
	part, next := chap.Fresh(7, 0, 33)
	other, _ := chap.Fresh(7, next, 32)
	if draw := plainDraw(7, 2); len(part) != 33 || !bytes.Equal(other, draw[:]) {
		t.Errorf("what was left of a draw is used: %x", other)
	}
}

// P16.1: of no bytes, of less, and of too many there are none, and the number is that which was handed in.
func TestFreshOutOfRange(t *testing.T) {
	for _, many := range []int{0, -1, -2, -31, -32, -33, -4096, 4097, 4098, 4128, 8192, 131072, 1 << 31, 1<<31 + 1, 1 << 32, 1<<32 + 1, 1<<32 + 32, math.MaxInt, math.MaxInt - 31, math.MinInt, math.MinInt + 1, math.MinInt + 32} {
		for _, seed := range []int{0, 7, -1} {
			for _, from := range numbers {
				if fresh, behind := chap.Fresh(seed, from, many); len(fresh) != 0 || behind != from {
					t.Errorf("Fresh(%d, %d, %d): %d bytes, %d", seed, from, many, len(fresh), behind)
				}
			}
		}
	}
}

// P16.3: no room stands behind the bytes, so that what is put behind them goes elsewhere.
func TestFreshHasNoRoom(t *testing.T) {
	for _, many := range []int{1, 31, 32, 33, 63, 64, 65, 70, 1000, 4095, 4096} {
		fresh, _ := chap.Fresh(7, 3, many)
		if len(fresh) != many || cap(fresh) != many {
			t.Errorf("%d bytes: %d, with room for %d", many, len(fresh), cap(fresh))
		}
	}
}

// P16.3: answers are new memory: written over, they change no other answer, given or yet to be.
func TestDrawsAreNew(t *testing.T) {
	for _, many := range []int{1, 32, 33, 64, 4096} {
		want, _ := plainFresh(7, 3, many)
		first, _ := chap.Fresh(7, 3, many)
		second, _ := chap.Fresh(7, 3, many)
		for i := range first {
			first[i] ^= 0xff
		}
		if !bytes.Equal(second, want) {
			t.Errorf("%d bytes: another answer was changed", many)
		}
		if third, _ := chap.Fresh(7, 3, many); !bytes.Equal(third, want) || !bytes.Equal(second, want) {
			t.Errorf("%d bytes: a later answer is another one", many)
		}
	}
	want := plainDraws(7, 3, 4)
	place := 0
	for n, draw := range chap.Draws(7, 3) {
		if (drawn{n, draw}) != want[place] {
			t.Errorf("place %d: %d %x", place, n, draw)
		}
		if place++; place == 4 {
			break
		}
		clear(draw[:])
	}
	one, two := chap.Draw(7, 3), chap.Draw(7, 3)
	clear(one[:])
	if two != want[0].draw || chap.Draw(7, 3) != two {
		t.Errorf("%x, want %x", two, want[0].draw)
	}
}

// P16.1, rule 8: what a call answers doesn't hang on the calls ahead of it.
func TestDrawsKeepNothing(t *testing.T) {
	r := dice(6)
	draws := chap.Draws(7, 3)
	want := plainDraws(7, 3, 5)
	wantFresh, _ := plainFresh(7, 9, 32)
	for range 20 {
		seed, from := anyNumber(r), anyNumber(r)
		chap.Answer(seed, wantFresh, wantFresh)
		chap.Draw(seed, from)
		chap.Fresh(seed, from, r.IntN(200))
		collect(chap.Draws(seed, from), 3)
		fresh, behind := chap.Fresh(7, 9, 32)
		if !slices.Equal(collect(draws, 5), want) || !bytes.Equal(fresh, wantFresh) || behind != 10 {
			t.Errorf("behind seed %d, from %d: another answer", seed, from)
		}
	}
}
