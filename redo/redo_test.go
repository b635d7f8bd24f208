package redo_test

import (
	"bytes"
	"crypto/hmac"
	"crypto/sha256"
	"encoding/binary"
	"iter"
	"math"
	"math/big"
	"math/rand/v2"
	"slices"
	"testing"

	"citadel/api"
	"citadel/redo"
)

// The chapter's words, made plainly, over another make of tags and of numbers, without a call of the program.

// isEntry is whether a count and puts are an entry's.
func isEntry(count int, puts []api.Put) bool {
	stands := map[int]bool{}
	for _, p := range puts {
		if p.At < 0 || p.At > 65535 || stands[p.At] {
			return false
		}
		stands[p.At] = true
	}
	return count >= 0 && len(puts) <= 56
}

// plainTag is the sector of a tag, of other sectors.
func plainTag(key []byte, cells ...api.Cell) api.Cell {
	var tag api.Cell
	h := hmac.New(sha256.New, key)
	for _, c := range cells {
		h.Write(c[:])
	}
	copy(tag[:], h.Sum(nil))
	return tag
}

// plainFirst is a sector that says so.
func plainFirst(count uint64, many int, numbers ...int) api.Cell {
	said := binary.BigEndian.AppendUint64(nil, count)
	said = binary.BigEndian.AppendUint16(said, uint16(many))
	for _, n := range numbers {
		said = binary.BigEndian.AppendUint16(said, uint16(n))
	}
	return api.Cell(append(said, make([]byte, 128-len(said))...))
}

// signed is sectors with the tag of all of them behind the first one, whether they are an entry's or not.
func signed(key []byte, first api.Cell, cells ...api.Cell) []api.Cell {
	tag := plainTag(key, append([]api.Cell{first}, cells...)...)
	return append([]api.Cell{first, tag}, cells...)
}

// plainEncode is an entry's sectors.
func plainEncode(key []byte, count int, puts []api.Put) []api.Cell {
	var numbers []int
	var cells []api.Cell
	for _, p := range puts {
		numbers = append(numbers, p.At)
		cells = append(cells, p.Cell)
	}
	return signed(key, plainFirst(uint64(count), len(puts), numbers...), cells...)
}

// entry is what Decode answers.
type entry struct {
	count int
	puts  []api.Put
	ok    bool
}

func (e entry) like(f entry) bool {
	return e.count == f.count && slices.Equal(e.puts, f.puts) && e.ok == f.ok
}

// plainDecode is the entry that sectors begin with.
func plainDecode(key []byte, cells []api.Cell) entry {
	if len(cells) < 2 {
		return entry{}
	}
	first := cells[0]
	e := entry{count: int(binary.BigEndian.Uint64(first[:])), ok: true}
	many := int(binary.BigEndian.Uint16(first[8:]))
	if many > 56 || len(cells) < 2+many {
		return entry{}
	}
	for i := range many {
		e.puts = append(e.puts, api.Put{At: int(binary.BigEndian.Uint16(first[10+2*i:])), Cell: cells[2+i]})
	}
	for _, x := range first[10+2*many:] {
		e.ok = e.ok && x == 0
	}
	right := plainTag(key, append([]api.Cell{first}, cells[2:2+many]...)...)
	if !e.ok || !isEntry(e.count, e.puts) || cells[1] != right {
		return entry{}
	}
	return e
}

// plainStart is what a start does, in numbers that don't wrap around.
func plainStart(counter, head, log int) int {
	c, h, l := big.NewInt(int64(counter)), big.NewInt(int64(head)), big.NewInt(int64(log))
	one := big.NewInt(1)
	noHead, noLog := h.Sign() < 0, l.Sign() < 0
	headIs := func(n *big.Int) bool { return !noHead && h.Cmp(n) == 0 }
	logIs := func(n *big.Int) bool { return !noLog && l.Cmp(n) == 0 }
	if c.Sign() < 0 || c.Cmp(new(big.Int).Lsh(one, 62)) > 0 {
		return 4
	}
	if headIs(c) {
		if logIs(new(big.Int).Add(c, one)) {
			return 3
		}
		if logIs(c) {
			return 2
		}
		return 1
	}
	if (noHead || headIs(new(big.Int).Sub(c, one))) && logIs(c) {
		return 2
	}
	return 4
}

// plainMerge is puts of which each number stands once, found one by one.
func plainMerge(puts []api.Put) []api.Put {
	var merged []api.Put
	for _, p := range puts {
		i := 0
		for i < len(merged) && merged[i].At < p.At {
			i++
		}
		if i < len(merged) && merged[i].At == p.At {
			merged[i] = p
			continue
		}
		merged = slices.Insert(merged, i, p)
	}
	return merged
}

var someKey = []byte("a log's key, of some bytes")

func dice() *rand.Rand { return rand.New(rand.NewPCG(10, 1)) }

func anyBytes(r *rand.Rand, n int) []byte {
	b := make([]byte, n)
	for i := range b {
		b[i] = byte(r.Uint32())
	}
	return b
}

func anyCell(r *rand.Rand) api.Cell { return api.Cell(anyBytes(r, 128)) }

// anyPuts is so many puts, no number twice, in any order.
func anyPuts(r *rand.Rand, many int) []api.Put {
	var puts []api.Put
	for stands := map[int]bool{}; len(puts) < many; {
		at := r.IntN(65536)
		if !stands[at] {
			puts = append(puts, api.Put{At: at, Cell: anyCell(r)})
			stands[at] = true
		}
	}
	return puts
}

// putsAt is puts with these numbers.
func putsAt(r *rand.Rand, numbers ...int) []api.Put {
	var puts []api.Put
	for _, at := range numbers {
		puts = append(puts, api.Put{At: at, Cell: anyCell(r)})
	}
	return puts
}

// rowOf is so many numbers, from one on, each so much above the one ahead of it.
func rowOf(from, by, many int) []int {
	var numbers []int
	for i := range many {
		numbers = append(numbers, from+by*i)
	}
	return numbers
}

// counts are counts at the edges of all sizes.
func counts() []int {
	all := []int{0, math.MaxInt, math.MaxInt - 1, 0x0102030405060708}
	for bits := range 63 {
		all = append(all, 1<<bits, 1<<bits-1, 1<<bits+1)
	}
	return all
}

// someKeys are keys of many lengths, none and no bytes among them.
func someKeys(r *rand.Rand) [][]byte {
	keys := [][]byte{nil, {}, {0}, {1}, anyBytes(r, 5), anyBytes(r, 31)}
	for _, n := range []int{32, 63, 64, 65, 128, 129, 1000} {
		keys = append(keys, anyBytes(r, n))
	}
	return keys
}

func decode(key []byte, cells []api.Cell) entry {
	count, puts, ok := redo.Decode(key, cells)
	return entry{count, puts, ok}
}

// wantEncode tells where an entry's sectors aren't those of the plain make.
func wantEncode(t *testing.T, key []byte, count int, puts []api.Put) []api.Cell {
	t.Helper()
	want := plainEncode(key, count, puts)
	cells, err := redo.Encode(key, count, puts)
	if !slices.Equal(cells, want) || err != nil {
		t.Fatalf("Encode, key %x, count %d, %d puts: %d sectors, %x, %v, want %d, %x", key, count, len(puts), len(cells), cells, err, len(want), want)
	}
	return cells
}

// wantRefused tells where puts are taken that are no entry's, or something stands beside the error.
func wantRefused(t *testing.T, count int, puts []api.Put) {
	t.Helper()
	if cells, err := redo.Encode(someKey, count, puts); cells != nil || err != api.ErrForm {
		t.Errorf("Encode, count %d, %d puts: %d sectors, %v", count, len(puts), len(cells), err)
	}
}

// wantDecode tells where the entry that sectors begin with isn't that one.
func wantDecode(t *testing.T, key []byte, cells []api.Cell, want entry) {
	t.Helper()
	got := decode(key, cells)
	if !got.like(want) || !got.ok && got.puts != nil {
		t.Fatalf("Decode, %d sectors: %d, %d puts, %v, want %d, %d puts, %v", len(cells), got.count, len(got.puts), got.ok, want.count, len(want.puts), want.ok)
	}
	if plain := plainDecode(key, cells); !plain.like(want) {
		t.Fatalf("%d sectors: by the chapter's words %d, %d puts, %v", len(cells), plain.count, len(plain.puts), plain.ok)
	}
}

// wantNone tells where sectors are some entry's.
func wantNone(t *testing.T, key []byte, cells []api.Cell) {
	t.Helper()
	wantDecode(t, key, cells, entry{})
}

func wantStart(t *testing.T, counter, head, log int) {
	t.Helper()
	if does, want := redo.Start(counter, head, log), plainStart(counter, head, log); does != want {
		t.Errorf("Start(%d, %d, %d): %d, want %d", counter, head, log, does, want)
	}
}

type pair struct{ place, number int }

// take is the first so many pairs, by a loop that is left.
func take(pairs iter.Seq2[int, int], most int) []pair {
	var taken []pair
	for place, number := range pairs {
		taken = append(taken, pair{place, number})
		if len(taken) == most {
			break
		}
	}
	return taken
}

// paired is numbers with their places.
func paired(numbers []int) []pair {
	var pairs []pair
	for i, n := range numbers {
		pairs = append(pairs, pair{i, n})
	}
	return pairs
}

// P10.1: the chapter's examples.
func TestExamples(t *testing.T) {
	for _, c := range []struct{ counter, head, log, want int }{
		{5, 5, 4, redo.Nothing},
		{5, 5, 6, redo.Raise},
		{5, 4, 5, redo.Redo},
		{5, 4, 4, redo.Broken},
	} {
		if does := redo.Start(c.counter, c.head, c.log); does != c.want {
			t.Errorf("Start(%d, %d, %d): %d, want %d", c.counter, c.head, c.log, does, c.want)
		}
	}
	if redo.Nothing != 1 || redo.Redo != 2 || redo.Raise != 3 || redo.Broken != 4 {
		t.Error(redo.Nothing, redo.Redo, redo.Raise, redo.Broken)
	}
}

// P10.1: what a start does, written out: each row of the chapter, with a head and a log or none.
func TestStartsWrittenOut(t *testing.T) {
	const last = 1 << 62
	for _, c := range []struct{ counter, head, log, want int }{
		{5, 5, 6, 3}, {5, 5, 5, 2}, {5, 5, 7, 1}, {5, 5, 4, 1}, {5, 5, 3, 1}, {5, 5, 0, 1}, {5, 5, -1, 1}, {5, 5, math.MinInt, 1}, {5, 5, math.MaxInt, 1},
		{5, 4, 5, 2}, {5, -1, 5, 2}, {5, -2, 5, 2}, {5, math.MinInt, 5, 2},
		{5, 4, 6, 4}, {5, 4, 4, 4}, {5, 4, 3, 4}, {5, 4, -1, 4}, {5, -1, 6, 4}, {5, -1, 4, 4}, {5, -1, -1, 4}, {5, 3, 5, 4}, {5, 3, 4, 4}, {5, 6, 5, 4}, {5, 6, 6, 4}, {5, 6, 7, 4}, {5, 7, 5, 4}, {5, 0, 5, 4}, {5, math.MaxInt, 5, 4},
		{0, 0, 1, 3}, {0, 0, 0, 2}, {0, 0, 2, 1}, {0, 0, -1, 1}, {0, -1, 0, 2}, {0, -2, 0, 2}, {0, -1, -1, 4}, {0, -1, 1, 4}, {0, 1, 0, 4}, {0, 1, 1, 4}, {0, math.MinInt, 0, 2}, {0, math.MaxInt, 0, 4},
		{1, 0, 1, 2}, {1, 0, 0, 4}, {1, -1, 1, 2}, {1, 0, 2, 4}, {1, 1, 0, 1},
		{-1, -1, -1, 4}, {-1, -1, 0, 4}, {-1, -2, -1, 4}, {-1, 0, 0, 4}, {-2, -2, -1, 4}, {-2, -1, -2, 4},
		{last, last, last + 1, 3}, {last, last, last, 2}, {last, last, last - 1, 1}, {last, last - 1, last, 2}, {last, -1, last, 2}, {last, last + 1, last, 4},
		{last + 1, last + 1, last + 2, 4}, {last + 1, last + 1, last + 1, 4}, {last + 1, last + 1, last, 4}, {last + 1, last, last + 1, 4}, {last + 1, -1, last + 1, 4},
		{math.MaxInt, math.MaxInt, math.MinInt, 4}, {math.MaxInt, math.MaxInt, math.MaxInt, 4}, {math.MaxInt, math.MaxInt - 1, math.MaxInt, 4}, {math.MaxInt, math.MinInt, math.MaxInt, 4},
		{math.MinInt, math.MinInt, math.MinInt, 4}, {math.MinInt, math.MaxInt, math.MinInt, 4}, {math.MinInt, math.MinInt, math.MinInt + 1, 4},
	} {
		if does := redo.Start(c.counter, c.head, c.log); does != c.want {
			t.Errorf("Start(%d, %d, %d): %d, want %d", c.counter, c.head, c.log, does, c.want)
		}
	}
}

// P10.1: all small counts, and all that stand beside the edges, as each of the three.
func TestAllStarts(t *testing.T) {
	for counter := -3; counter < 7; counter++ {
		for head := -4; head < 10; head++ {
			for log := -4; log < 10; log++ {
				wantStart(t, counter, head, log)
			}
		}
	}
	var edges []int
	for _, n := range []int{math.MinInt, math.MinInt32, 0, 1 << 31, 1 << 32, 1 << 61, 1 << 62, math.MaxInt} {
		for by := -3; by <= 3; by++ {
			edges = append(edges, n+by) // such as wrap around are edges, too
		}
	}
	for _, counter := range edges {
		for _, head := range edges {
			for _, log := range edges {
				wantStart(t, counter, head, log)
			}
		}
	}
}

// P10.1: any counters, with heads and logs beside them.
func TestAnyStarts(t *testing.T) {
	r := dice()
	for range 20000 {
		counter := int(r.Uint64()) >> r.IntN(64)
		wantStart(t, counter, counter-3+r.IntN(6), counter-3+r.IntN(7))
		wantStart(t, counter, -r.IntN(5), counter-1+r.IntN(4))
		wantStart(t, counter, int(r.Uint64()), int(r.Uint64()))
	}
}

// P10.1: an entry of two puts, its sectors written out.
func TestSectorsWrittenOut(t *testing.T) {
	puts := []api.Put{{At: 300, Cell: api.Cell{1, 2, 127: 3}}, {At: 9, Cell: api.Cell{4, 127: 5}}}
	cells, err := redo.Encode([]byte("key"), 0x0102030405060708, puts)
	if len(cells) != 4 || err != nil {
		t.Fatalf("%d sectors, %v", len(cells), err)
	}
	if want := (api.Cell{1, 2, 3, 4, 5, 6, 7, 8, 0, 2, 1, 44, 0, 9}); cells[0] != want {
		t.Errorf("sector 0: %x", cells[0])
	}
	h := hmac.New(sha256.New, []byte("key"))
	h.Write(slices.Concat(cells[0][:], puts[0].Cell[:], puts[1].Cell[:]))
	if !bytes.Equal(cells[1][:32], h.Sum(nil)) || !bytes.Equal(cells[1][32:], make([]byte, 96)) {
		t.Errorf("sector 1: %x", cells[1])
	}
	if cells[2] != puts[0].Cell || cells[3] != puts[1].Cell {
		t.Errorf("sectors 2 and 3: %x", cells[2:])
	}
}

// P10.1: entries of each number of puts, in any order, with keys of many lengths.
func TestEntries(t *testing.T) {
	r := dice()
	keys := someKeys(r)
	for many := range 57 {
		puts := anyPuts(r, many)
		key := keys[many%len(keys)]
		wantEncode(t, key, 1000+many, puts)
		slices.SortFunc(puts, func(a, b api.Put) int { return b.At - a.At })
		wantEncode(t, key, many, puts)
		slices.Reverse(puts)
		wantEncode(t, key, many, puts)
	}
	for _, key := range keys {
		for _, many := range []int{0, 1, 3, 56} {
			wantEncode(t, key, 77, anyPuts(r, many))
		}
	}
}

// P10.1: no puts and none at all, no key and one of no bytes, are the same.
func TestNoPutsAndNoKey(t *testing.T) {
	for _, count := range counts() {
		cells := wantEncode(t, nil, count, nil)
		for _, key := range [][]byte{nil, {}, make([]byte, 0, 9)} {
			for _, puts := range [][]api.Put{nil, {}, make([]api.Put, 0, 9)} {
				if again := wantEncode(t, key, count, puts); len(again) != 2 || !slices.Equal(again, cells) {
					t.Errorf("count %d: %x, want %x", count, again, cells)
				}
				wantDecode(t, key, cells, entry{count, nil, true})
			}
		}
	}
}

// P10.1: the first and the last number, rows of numbers, and puts of the same bytes, noughts among them.
func TestNumbersAtTheEdges(t *testing.T) {
	r := dice()
	for _, numbers := range [][]int{{0}, {65535}, {0, 65535}, {65535, 0}, {255, 256}, {256, 255}, {1, 256}, {127, 128, 32767, 32768, 65280}, rowOf(0, 1, 56), rowOf(65535, -1, 56), rowOf(65480, 1, 56), rowOf(0, 256, 56), rowOf(55, -1, 56)} {
		puts := putsAt(r, numbers...)
		cells := wantEncode(t, someKey, 3, puts)
		wantDecode(t, someKey, cells, entry{3, puts, true})
		for i := range puts {
			puts[i].Cell = api.Cell{}
		}
		cells = wantEncode(t, someKey, 0, puts)
		wantDecode(t, someKey, cells, entry{0, puts, true})
	}
}

// P10.1: a count below 0, too many puts, numbers that there aren't, and such as stand twice, are refused, with nothing beside the error.
func TestRefusedEntries(t *testing.T) {
	r := dice()
	for _, count := range []int{-1, -2, -256, math.MinInt32, math.MinInt + 1, math.MinInt} {
		wantRefused(t, count, nil)
		wantRefused(t, count, anyPuts(r, 2))
		wantRefused(t, count, anyPuts(r, 57))
	}
	for _, many := range []int{57, 58, 64, 112, 256, 257, 1000, 65536, 65537} {
		wantRefused(t, 1, anyPuts(r, min(many, 60000)))
		wantRefused(t, 1, make([]api.Put, many))
	}
	for _, bad := range []int{-1, -2, -65535, -65536, math.MinInt, 65536, 65537, 65536 + 9, 1 << 31, 1 << 32, 1<<32 + 9, 1 << 62, math.MaxInt} {
		wantRefused(t, 1, putsAt(r, bad))
		wantRefused(t, 1, putsAt(r, bad, 1, 2))
		wantRefused(t, 1, putsAt(r, 1, bad, 2))
		wantRefused(t, 1, putsAt(r, 1, 2, bad))
		wantRefused(t, 1, putsAt(r, append(rowOf(1, 1, 55), bad)...))
	}
	for many := 2; many <= 56; many++ {
		for _, numbers := range [][]int{rowOf(0, 7, many), rowOf(65535, -9, many)} {
			i, k := r.IntN(many), r.IntN(many-1)
			for _, c := range []pair{{0, 1}, {0, many - 1}, {many - 2, many - 1}, {i, (i + k + 1) % many}} {
				twice := slices.Clone(numbers)
				twice[c.place] = twice[c.number]
				if c.place != c.number {
					wantRefused(t, 1, putsAt(r, twice...))
				}
			}
		}
	}
	// The same put twice is a number that stands twice.
	wantRefused(t, 1, make([]api.Put, 2))
	wantRefused(t, 1, []api.Put{{At: 3, Cell: api.Cell{4}}, {At: 2}, {At: 3, Cell: api.Cell{4}}})
}

// P10.1: no sectors, one, fewer than sector 0 says, as many, and more: cut at each place, and with any behind them.
func TestSectorsCutAndLonger(t *testing.T) {
	r := dice()
	for _, many := range []int{0, 1, 2, 9, 55, 56} {
		puts := anyPuts(r, many)
		cells := wantEncode(t, someKey, 12, puts)
		for n := range cells {
			wantNone(t, someKey, cells[:n])
			wantNone(t, someKey, slices.Clone(cells[:n]))
			// Sector 0 says more than there is, whatever stands in the room behind.
			wantNone(t, someKey, cells[:n:len(cells)])
		}
		for _, more := range []int{0, 1, 2, 6, 58, 200} {
			longer := slices.Clone(cells)
			for range more {
				longer = append(longer, anyCell(r))
			}
			wantDecode(t, someKey, longer, entry{12, puts, true})
			wantDecode(t, someKey, append(slices.Clone(cells), make([]api.Cell, more)...), entry{12, puts, true})
		}
		wantDecode(t, someKey, slices.Concat(cells, wantEncode(t, someKey, 13, anyPuts(r, 3))), entry{12, puts, true})
	}
	for _, none := range [][]api.Cell{nil, {}, make([]api.Cell, 0, 60), make([]api.Cell, 1), make([]api.Cell, 2), make([]api.Cell, 64)} {
		wantNone(t, someKey, none)
	}
}

// P10.1: sectors with the right tag that are no entry's: a count that is no int, too many puts, a number twice, bytes where there should be noughts.
func TestSignedSectorsThatAreNoEntry(t *testing.T) {
	r := dice()
	cells := make([]api.Cell, 200)
	for i := range cells {
		cells[i] = anyCell(r)
	}
	// As a hold on what is signed here: these are entries.
	for _, count := range []uint64{0, 1, 1<<63 - 1} {
		good := signed(someKey, plainFirst(count, 2, 7, 8), cells[:2]...)
		wantDecode(t, someKey, good, entry{int(count), []api.Put{{At: 7, Cell: cells[0]}, {At: 8, Cell: cells[1]}}, true})
	}
	for _, count := range []uint64{1 << 63, 1<<63 + 1, math.MaxUint64, math.MaxUint64 - 1, 0xff00000000000000} {
		wantNone(t, someKey, signed(someKey, plainFirst(count, 0)))
		wantNone(t, someKey, signed(someKey, plainFirst(count, 2, 7, 8), cells[:2]...))
	}
	for _, many := range []int{57, 58, 59} {
		wantNone(t, someKey, signed(someKey, plainFirst(1, many, rowOf(1, 1, many)...), cells[:many]...))
		wantNone(t, someKey, signed(someKey, plainFirst(1, many, rowOf(1, 1, many)...)))
		wantNone(t, someKey, signed(someKey, plainFirst(1, many), cells[:56]...))
	}
	for _, many := range []int{60, 64, 198, 199, 255, 256, 257, 65535} {
		wantNone(t, someKey, signed(someKey, plainFirst(1, many), cells[:min(many, len(cells))]...))
		wantNone(t, someKey, signed(someKey, plainFirst(1, many)))
	}
	wantNone(t, someKey, signed(someKey, plainFirst(1, 2, 7, 7), cells[:2]...))
	wantNone(t, someKey, signed(someKey, plainFirst(1, 2, 0, 0), cells[:2]...))
	wantNone(t, someKey, signed(someKey, plainFirst(1, 2), cells[:2]...))
	wantNone(t, someKey, signed(someKey, plainFirst(1, 3, 7, 8, 7), cells[:3]...))
	wantNone(t, someKey, signed(someKey, plainFirst(1, 56, append(rowOf(0, 3, 55), 0)...), cells[:56]...))
	for _, many := range []int{0, 1, 2, 56} {
		first := plainFirst(1, many, rowOf(0, 1, many)...)
		for at := 10 + 2*many; at < 128; at++ {
			changed := first
			changed[at] = 1 << r.IntN(8)
			wantNone(t, someKey, signed(someKey, changed, cells[:many]...))
		}
		good := signed(someKey, first, cells[:many]...)
		for at := 32; at < 128; at++ {
			bad := slices.Clone(good)
			bad[1][at] = 1 << r.IntN(8)
			wantNone(t, someKey, bad)
		}
	}
	// A number more than there are puts is no nought.
	wantNone(t, someKey, signed(someKey, plainFirst(1, 1, 7, 8), cells[:1]...))
	// A tag of all sectors that there are is none of those that sector 0 says.
	wantNone(t, someKey, signed(someKey, plainFirst(1, 1, 7), cells[:2]...))
	wantNone(t, someKey, signed(someKey, plainFirst(1, 0), cells[:1]...))
}

// P10.1: sectors told by a tag that is another's: of other parts, in another order, cut, or of no key.
func TestWrongTags(t *testing.T) {
	r := dice()
	puts := anyPuts(r, 3)
	cells := wantEncode(t, someKey, 4, puts)
	for name, tag := range map[string]api.Cell{
		"noughts":           {},
		"of sector 0":       plainTag(someKey, cells[0]),
		"of the puts":       plainTag(someKey, cells[2:]...),
		"of too few":        plainTag(someKey, cells[0], cells[2], cells[3]),
		"of too many":       plainTag(someKey, cells[0], cells[2], cells[3], cells[4], api.Cell{}),
		"in another order":  plainTag(someKey, cells[0], cells[3], cells[2], cells[4]),
		"sector 0 behind":   plainTag(someKey, cells[2], cells[3], cells[4], cells[0]),
		"of noughts within": plainTag(someKey, cells[0], api.Cell{}, cells[2], cells[3], cells[4]),
		"of no key":         plainTag(nil, cells[0], cells[2], cells[3], cells[4]),
	} {
		bad := slices.Clone(cells)
		bad[1] = tag
		if got := decode(someKey, bad); got.ok || got.count != 0 || got.puts != nil {
			t.Errorf("%s: %d, %d puts", name, got.count, len(got.puts))
		}
	}
	// Half of the right tag is none.
	bad := slices.Clone(cells)
	clear(bad[1][16:])
	wantNone(t, someKey, bad)
}

// P10.1: any sectors that begin with something like an entry, by the chapter's words.
func TestAnySectors(t *testing.T) {
	r := dice()
	entries := 0
	for range 6000 {
		many := r.IntN(5)
		first := plainFirst(uint64(r.IntN(3)), r.IntN(5))
		for i := range many {
			first[11+2*i] = byte(r.IntN(6))
		}
		if r.IntN(8) == 0 {
			first[r.IntN(128)] = byte(r.IntN(256))
		}
		var puts []api.Cell
		for range many {
			puts = append(puts, api.Cell{byte(r.IntN(3))})
		}
		cells := signed(someKey, first, puts...)
		if r.IntN(4) == 0 {
			cells = append(cells, api.Cell{1})
		}
		want := plainDecode(someKey, cells)
		if want.ok {
			entries++
		}
		wantDecode(t, someKey, cells, want)
	}
	if entries < 100 {
		t.Errorf("%d entries alone", entries)
	}
}

// P10.1: what sector 0 says, whatever the tag and whether there are such sectors: 0, 1, 56 numbers, the same ones too; none of more.
func TestPuts(t *testing.T) {
	r := dice()
	for many := range 57 {
		numbers := []int{0, 65535, 0, 255, 256}
		for len(numbers) < many {
			numbers = append(numbers, r.IntN(65536))
		}
		numbers = numbers[:many]
		first := plainFirst(uint64(r.Uint64()), many, append(slices.Clone(numbers), rowOf(1, 1, 59-many)...)...)
		for _, cells := range [][]api.Cell{{first}, {first, anyCell(r)}, {first, {}, {}}, append([]api.Cell{first}, make([]api.Cell, 63)...)} {
			if got := take(redo.Puts(cells), math.MaxInt); !slices.Equal(got, paired(numbers)) {
				t.Errorf("%d puts: %v, want %v", many, got, numbers)
			}
		}
	}
	for _, many := range []int{57, 58, 59, 60, 63, 64, 127, 128, 255, 256, 257, 312, 32768, 65280, 65534, 65535} {
		cells := []api.Cell{plainFirst(1, many, rowOf(1, 1, 59)...), anyCell(r), anyCell(r)}
		if got := take(redo.Puts(cells), math.MaxInt); got != nil {
			t.Errorf("%d puts: %v", many, got)
		}
	}
	for _, none := range [][]api.Cell{nil, {}, []api.Cell{plainFirst(1, 2, 3, 4)}[:0]} {
		if got := take(redo.Puts(none), math.MaxInt); got != nil {
			t.Errorf("no sectors: %v", got)
		}
	}
}

// P10.1: the numbers of entries that were encoded, and of sectors that are none.
func TestPutsOfEntries(t *testing.T) {
	r := dice()
	for _, many := range []int{0, 1, 2, 30, 56} {
		puts := anyPuts(r, many)
		var want []pair
		for i, p := range puts {
			want = append(want, pair{i, p.At})
		}
		cells := wantEncode(t, someKey, r.IntN(1000), puts)
		for n := 1; n <= len(cells); n++ {
			cells[1] = anyCell(r)
			if got := take(redo.Puts(cells[:n]), math.MaxInt); !slices.Equal(got, want) {
				t.Errorf("%d puts, %d sectors: %v, want %v", many, n, got, want)
			}
		}
	}
}

// P10.1: numbers that are left anywhere end there; run again they begin anew; two runs know nothing of one another.
func TestPutsLeftAndRunAgain(t *testing.T) {
	numbers := rowOf(9, 500, 56)
	pairs := redo.Puts([]api.Cell{plainFirst(3, 56, numbers...)})
	for most := 1; most <= 57; most++ {
		if got := take(pairs, most); !slices.Equal(got, paired(numbers)[:min(most, 56)]) {
			t.Errorf("the first %d: %v", most, got)
		}
	}
	runs := 0
	for place, number := range pairs {
		for inner, other := range pairs {
			if other != numbers[inner] || inner > place {
				t.Fatalf("within %d: %d, %d", place, inner, other)
			}
			if inner == place {
				break
			}
		}
		if place != runs || number != numbers[place] {
			t.Fatalf("%d: %d, %d", runs, place, number)
		}
		runs++
	}
	if runs != 56 {
		t.Errorf("%d runs", runs)
	}
	calls := 0
	pairs(func(int, int) bool {
		calls++
		return calls < 4
	})
	if calls != 4 {
		t.Errorf("called %d times", calls)
	}
	next, stop := iter.Pull2(pairs)
	for i := range 3 {
		if place, number, ok := next(); place != i || number != numbers[i] || !ok {
			t.Errorf("pulled: %d, %d, %v", place, number, ok)
		}
	}
	stop()
}

// marked is a put whose bytes are noughts ahead of a mark.
type marked struct {
	at   int
	mark byte
}

// putsOf is puts that are so marked.
func putsOf(all ...marked) []api.Put {
	var puts []api.Put
	for _, m := range all {
		puts = append(puts, api.Put{At: m.at, Cell: api.Cell{127: m.mark}})
	}
	return puts
}

// P10.1: puts whose numbers stand once, twice and many times, written out.
func TestMergesWrittenOut(t *testing.T) {
	for _, x := range []struct{ puts, want []marked }{
		{nil, nil},
		{[]marked{{5, 1}}, []marked{{5, 1}}},
		{[]marked{{5, 1}, {2, 1}}, []marked{{2, 1}, {5, 1}}},
		{[]marked{{5, 1}, {2, 2}, {5, 3}}, []marked{{2, 2}, {5, 3}}},
		{[]marked{{5, 1}, {5, 2}}, []marked{{5, 2}}},
		{[]marked{{5, 2}, {5, 1}}, []marked{{5, 1}}},
		{[]marked{{5, 1}, {5, 0}}, []marked{{5, 0}}},
		{[]marked{{5, 1}, {5, 1}, {5, 1}}, []marked{{5, 1}}},
		{[]marked{{0, 1}, {-1, 2}, {65536, 3}, {65535, 1}, {math.MaxInt, 2}, {math.MinInt, 3}, {-1, 1}}, []marked{{math.MinInt, 3}, {-1, 1}, {0, 1}, {65535, 1}, {65536, 3}, {math.MaxInt, 2}}},
		{[]marked{{1 << 32, 1}, {0, 2}, {1 << 32, 3}, {1 << 16, 2}}, []marked{{0, 2}, {1 << 16, 2}, {1 << 32, 3}}},
		{[]marked{{9, 1}, {9, 2}, {9, 3}, {8, 1}, {9, 2}, {8, 3}, {7, 1}}, []marked{{7, 1}, {8, 3}, {9, 2}}},
	} {
		if got := redo.Merge(putsOf(x.puts...)...); !slices.Equal(got, putsOf(x.want...)) {
			t.Errorf("Merge of %v: %v, want %v", x.puts, got, x.want)
		}
	}
	for _, none := range [][]api.Put{nil, {}, make([]api.Put, 0, 9)} {
		if got := redo.Merge(none...); len(got) != 0 {
			t.Errorf("Merge of none: %v", got)
		}
	}
	if got := redo.Merge(); len(got) != 0 {
		t.Errorf("Merge of none: %v", got)
	}
}

// P10.1: all rows of up to five puts of three numbers, and any puts in great number.
func TestAllMerges(t *testing.T) {
	numbers := []int{-2, 5, 70000}
	var all func(puts []api.Put)
	all = func(puts []api.Put) {
		if got, want := redo.Merge(puts...), plainMerge(puts); !slices.Equal(got, want) {
			t.Fatalf("Merge of %d: %v, want %v", len(puts), got, want)
		}
		if len(puts) == 5 {
			return
		}
		for _, at := range numbers {
			all(append(slices.Clone(puts), api.Put{At: at, Cell: api.Cell{byte(len(puts))}}))
		}
	}
	all(nil)
	r := dice()
	for range 400 {
		var puts []api.Put
		for i := range r.IntN(120) {
			puts = append(puts, api.Put{At: (r.IntN(60) - 20) << r.IntN(58), Cell: api.Cell{byte(i), 1}})
		}
		if got, want := redo.Merge(puts...), plainMerge(puts); !slices.Equal(got, want) {
			t.Fatalf("Merge of %d: %v, want %v", len(puts), got, want)
		}
	}
	many := make([]api.Put, 100000)
	for i := range many {
		many[i] = api.Put{At: -i % 70000, Cell: api.Cell{byte(i), byte(i >> 8), byte(i >> 16)}}
	}
	got := redo.Merge(many...)
	if len(got) != 70000 {
		t.Fatalf("%d puts", len(got))
	}
	for i, p := range got {
		at := 69999 - i
		if at < 30000 {
			at += 70000
		}
		if p != many[at] {
			t.Fatalf("%d: %d, %x", i, p.At, p.Cell)
		}
	}
}

// P10.1: no entry that Merge would change is encoded; what it answers is, if its numbers are in form.
func TestMergedPutsAreEncoded(t *testing.T) {
	r := dice()
	for range 300 {
		var puts []api.Put
		for range 2 + r.IntN(54) {
			puts = append(puts, api.Put{At: r.IntN(80), Cell: anyCell(r)})
		}
		merged := redo.Merge(puts...)
		if len(merged) < len(puts) {
			wantRefused(t, 5, puts)
		}
		wantDecode(t, someKey, wantEncode(t, someKey, 5, merged), entry{5, merged, true})
	}
}

// P10.2: an entry that is encoded is decoded, of each number of puts, counts and keys, also with other sectors behind it; with another key it is none.
func TestEncodedIsDecoded(t *testing.T) {
	r := dice()
	keys := someKeys(r)
	all := counts()
	for many := range 57 {
		puts, count, key := anyPuts(r, many), all[(many*7)%len(all)], keys[many%len(keys)]
		cells, err := redo.Encode(key, count, puts)
		if err != nil {
			t.Fatalf("%d puts: %v", many, err)
		}
		want := entry{count, puts, true}
		wantDecode(t, key, cells, want)
		wantDecode(t, key, append(cells, anyCell(r), anyCell(r)), want)
		wantNone(t, append(slices.Clone(key), 1), cells)
	}
	puts := anyPuts(r, 2)
	for _, count := range all {
		cells, _ := redo.Encode(someKey, count, puts)
		wantDecode(t, someKey, cells, entry{count, puts, true})
	}
}

// P10.2: of keys each decodes its own entries alone, those of the same piece's (noughts behind, or a long key's digest) as well.
func TestOtherKeys(t *testing.T) {
	r := dice()
	long := anyBytes(r, 100)
	sum := sha256.Sum256(long)
	keys := [][]byte{nil, {1}, {1, 1}, {0, 1}, anyBytes(r, 32), anyBytes(r, 32), anyBytes(r, 64), anyBytes(r, 65), long}
	puts := anyPuts(r, 3)
	for i, key := range keys {
		cells, _ := redo.Encode(key, 8, puts)
		for j, other := range keys {
			if i == j {
				wantDecode(t, other, cells, entry{8, puts, true})
			} else {
				wantNone(t, other, cells)
			}
		}
	}
	cells, _ := redo.Encode([]byte{1}, 8, puts)
	wantDecode(t, []byte{1, 0, 0}, cells, entry{8, puts, true})
	cells, _ = redo.Encode(long, 8, puts)
	wantDecode(t, sum[:], cells, entry{8, puts, true})
	key := slices.Clone(someKey)
	cells, _ = redo.Encode(key, 8, puts)
	for i := range key {
		for bit := range 8 {
			key[i] ^= 1 << bit
			wantNone(t, key, cells)
			key[i] ^= 1 << bit
		}
	}
}

// P10.2: with one byte changed, anywhere in an entry's sectors, it is none: each byte by each bit and by others, also where there are noughts.
func TestOneByteChanged(t *testing.T) {
	r := dice()
	for _, many := range []int{0, 1, 2} {
		cells, _ := redo.Encode(someKey, 1<<40+3, anyPuts(r, many))
		for i := range cells {
			for at := range cells[i] {
				before := cells[i][at]
				for _, by := range []byte{1, 2, 4, 8, 16, 32, 64, 128, 255, byte(1 + r.IntN(255))} {
					cells[i][at] = before ^ by
					wantNone(t, someKey, cells)
				}
				cells[i][at] = before
			}
		}
	}
	cells, _ := redo.Encode(someKey, 9, anyPuts(r, 56))
	for i := range cells {
		for at := range cells[i] {
			if i > 1 && at%9 != i%9 {
				continue
			}
			cells[i][at] ^= 1 << (at % 8)
			wantNone(t, someKey, cells)
			cells[i][at] ^= 1 << (at % 8)
		}
	}
	if !decode(someKey, cells).ok {
		t.Error("the changes weren't undone")
	}
}

// P10.2: how many puts there are, changed to each number, and sectors that are one another's, are no entry.
func TestChangedMoreThanAByte(t *testing.T) {
	r := dice()
	cells, _ := redo.Encode(someKey, 9, anyPuts(r, 5))
	longer := append(slices.Clone(cells), make([]api.Cell, 60)...)
	for many := range 65536 {
		if many != 5 && (many < 300 || many%97 == 0) {
			binary.BigEndian.PutUint16(longer[0][8:], uint16(many))
			wantNone(t, someKey, longer)
		}
	}
	for i := range cells {
		for j := range i {
			swapped := slices.Clone(cells)
			swapped[i], swapped[j] = swapped[j], swapped[i]
			wantNone(t, someKey, swapped)
		}
		wantNone(t, someKey, slices.Concat(cells[:i], cells[i+1:], make([]api.Cell, 2)))
		wantNone(t, someKey, slices.Insert(slices.Clone(cells), i, api.Cell{}))
	}
	// Two numbers changed about, with their tag as it was.
	changed := slices.Clone(cells)
	changed[0][10], changed[0][12] = changed[0][12], changed[0][10]
	changed[0][11], changed[0][13] = changed[0][13], changed[0][11]
	wantNone(t, someKey, changed)
}

// oneOf is whether Decode answered one of the entries, or none.
func oneOf(got entry, entries []entry) bool {
	return got.like(entry{}) || slices.ContainsFunc(entries, got.like)
}

// mixed tells where of sectors, each taken of one of the entries or of none, Decode answers none of these entries; and counts which it answers.
func mixed(t *testing.T, key []byte, logs [][]api.Cell, entries []entry, from []int) int {
	t.Helper()
	cells := make([]api.Cell, len(from))
	for i, which := range from {
		if which < len(logs) && i < len(logs[which]) {
			cells[i] = logs[which][i]
		}
	}
	got := decode(key, cells)
	if !oneOf(got, entries) || !got.like(plainDecode(key, cells)) {
		t.Fatalf("sectors of %v: %d, %d puts, %v", from, got.count, len(got.puts), got.ok)
	}
	if got.ok {
		return 1
	}
	return 0
}

// allMixed tells it of all ways to take the sectors.
func allMixed(t *testing.T, key []byte, logs [][]api.Cell, entries []entry, places int) {
	t.Helper()
	from := make([]int, places)
	answered := 0
	for {
		answered += mixed(t, key, logs, entries, from)
		i := 0
		for i < places && from[i] == len(logs) {
			from[i] = 0
			i++
		}
		if i == places {
			break
		}
		from[i]++
	}
	if answered == 0 {
		t.Error("no entry was ever answered")
	}
}

// entriesOf is entries of so many puts each, and their sectors.
func entriesOf(t *testing.T, r *rand.Rand, key []byte, sizes ...int) ([][]api.Cell, []entry) {
	t.Helper()
	var logs [][]api.Cell
	var entries []entry
	for i, many := range sizes {
		puts := anyPuts(r, many)
		logs = append(logs, wantEncode(t, key, 40+i, puts))
		entries = append(entries, entry{40 + i, puts, true})
	}
	return logs, entries
}

// P10.3: sectors of two or three entries and noughts, in all ways: one of the entries, or none.
func TestMixedSectors(t *testing.T) {
	r := dice()
	for _, sizes := range [][]int{{0, 0}, {0, 1}, {1, 0}, {1, 1}, {2, 1}, {2, 2}, {3, 2}, {4, 4}, {5, 3}, {0, 1, 2}, {2, 2, 2}} {
		logs, entries := entriesOf(t, r, someKey, sizes...)
		allMixed(t, someKey, logs, entries, 2+slices.Max(sizes))
	}
	for n := range 4 {
		// Of noughts alone there is none.
		wantNone(t, someKey, make([]api.Cell, n))
	}
}

// P10.3: entries that are almost the same: of the same puts and another count, of the same numbers and other bytes, of the same bytes and other numbers, one a beginning of the other.
func TestMixedSectorsOfLikeEntries(t *testing.T) {
	r := dice()
	puts := anyPuts(r, 3)
	other := slices.Clone(puts)
	other[1].Cell[5] ^= 1
	moved := slices.Clone(puts)
	moved[2].At ^= 1
	turned := slices.Clone(puts)
	slices.Reverse(turned)
	for _, pair := range [][2]entry{
		{{7, puts, true}, {8, puts, true}},
		{{7, puts, true}, {7, other, true}},
		{{7, puts, true}, {7, moved, true}},
		{{7, puts, true}, {7, turned, true}},
		{{7, puts, true}, {7, puts[:2], true}},
		{{7, puts, true}, {7, puts[1:], true}},
		{{7, puts, true}, {7, nil, true}},
		{{0, nil, true}, {1, nil, true}},
	} {
		logs := [][]api.Cell{wantEncode(t, someKey, pair[0].count, pair[0].puts), wantEncode(t, someKey, pair[1].count, pair[1].puts)}
		allMixed(t, someKey, logs, pair[:], 5)
	}
}

// P10.3: great entries of which some sectors are another's, or noughts: one place each, a beginning, an end, any of them.
func TestMixedSectorsOfGreatEntries(t *testing.T) {
	r := dice()
	for _, sizes := range [][]int{{56, 56}, {56, 20}, {20, 56}, {30, 0}} {
		logs, entries := entriesOf(t, r, someKey, sizes...)
		places := 2 + slices.Max(sizes)
		for i := range places + 1 {
			for _, fill := range []int{1, 2} {
				one, tail, head := make([]int, places), make([]int, places), make([]int, places)
				for k := range places {
					if k == i {
						one[k] = fill
					}
					if k >= i {
						tail[k] = fill
					}
					if k < i {
						head[k] = fill
					}
				}
				for _, from := range [][]int{one, tail, head} {
					mixed(t, someKey, logs, entries, from)
				}
			}
		}
		for range 200 {
			from := make([]int, places)
			for range r.IntN(9) {
				from[r.IntN(places)] = r.IntN(3)
			}
			mixed(t, someKey, logs, entries, from)
		}
	}
}

// P10.3: an entry that is written over another one, sector by sector in any order, is there when all of its sectors are, and not before; the elder one isn't, as soon as one of its sectors has gone.
func TestWrittenOverSectorBySector(t *testing.T) {
	r := dice()
	for _, sizes := range [][]int{{4, 4}, {4, 2}, {2, 5}, {0, 3}, {3, 0}} {
		logs, entries := entriesOf(t, r, someKey, sizes...)
		for range 30 {
			log := make([]api.Cell, 64)
			copy(log, logs[0])
			for done, i := range r.Perm(len(logs[1])) {
				wantWhole(t, log, logs, entries, done)
				log[i] = logs[1][i]
			}
			wantDecode(t, someKey, log, entries[1])
		}
	}
}

// wantWhole tells where the log isn't the elder entry although none of its sectors has gone, or is one although one of its has, or not all of the newer's are there.
func wantWhole(t *testing.T, log []api.Cell, logs [][]api.Cell, entries []entry, done int) {
	t.Helper()
	got := decode(someKey, log)
	for i := range logs {
		there := slices.Equal(log[:len(logs[i])], logs[i])
		if there != got.like(entries[i]) {
			t.Fatalf("%d sectors written: entry %d is there %v, answered %d, %v", done, i, there, got.count, got.ok)
		}
	}
	if done == 0 && !got.like(entries[0]) {
		t.Fatalf("ahead of all: %d, %v", got.count, got.ok)
	}
}

// callAll makes all calls with these, refused ones among them.
func callAll(key []byte, puts []api.Put, cells []api.Cell) {
	for _, count := range []int{-1, 0, 5, math.MaxInt} {
		redo.Encode(key, count, puts)
	}
	redo.Decode(key, cells)
	redo.Merge(puts...)
	take(redo.Puts(cells), 2)
	take(redo.Puts(cells), math.MaxInt)
}

// P10.4: key, puts and sectors, and all room behind them, stay as they are, whether the call is refused or not.
func TestNothingHandedInIsChanged(t *testing.T) {
	r := dice()
	for _, many := range []int{0, 1, 2, 9, 56, 57, 100} {
		for _, twice := range []bool{false, true} {
			keyRoom, putsRoom := anyBytes(r, 90), anyPuts(r, many+9)
			if twice && many > 1 {
				putsRoom[many-1].At = putsRoom[0].At
			}
			cellsRoom := make([]api.Cell, many+12)
			for i := range cellsRoom {
				cellsRoom[i] = anyCell(r)
			}
			if many <= 56 {
				copy(cellsRoom, plainEncode(keyRoom[:32], 3, putsRoom[:many]))
			}
			key, puts, cells := slices.Clone(keyRoom), slices.Clone(putsRoom), slices.Clone(cellsRoom)
			for _, n := range []int{0, 1, 2, many, 2 + many} {
				callAll(keyRoom[:32], putsRoom[:many], cellsRoom[:n])
				callAll(keyRoom[:0], putsRoom[:min(many, n)], cellsRoom[:n])
			}
			if !bytes.Equal(keyRoom, key) || !slices.Equal(putsRoom, puts) || !slices.Equal(cellsRoom, cells) {
				t.Errorf("%d puts: something was changed", many)
			}
		}
	}
}

// P10.4: what stands in the room behind arguments counts for nothing.
func TestSpareRoomCountsForNothing(t *testing.T) {
	r := dice()
	putsRoom, keyRoom := anyPuts(r, 60), anyBytes(r, 64)
	for many := range 57 {
		puts := putsRoom[:many]
		cells := wantEncode(t, keyRoom[:20], many, puts)
		room := append(slices.Clone(cells), anyCell(r), anyCell(r))
		wantDecode(t, keyRoom[:20], room[:len(cells)], entry{many, puts, true})
		wantNone(t, keyRoom[:20], room[:len(cells)-1])
		if got := redo.Merge(puts...); len(got) != many {
			t.Errorf("Merge of %d: %d", many, len(got))
		}
	}
}

// scribble changes a list with all its room.
func scribble[T api.Cell | api.Put](list []T, change func(*T)) {
	list = list[:cap(list)]
	for i := range list {
		change(&list[i])
	}
}

func otherCell(c *api.Cell) {
	for i := range c {
		c[i] ^= 0xff
	}
}

func otherPut(p *api.Put) {
	p.At ^= 1
	otherCell(&p.Cell)
}

// P10.4: what is answered is new memory, with its room: changing it changes no argument and no other answer.
func TestAnswersAreNew(t *testing.T) {
	r := dice()
	for _, many := range []int{0, 1, 2, 7, 56} {
		putsRoom := anyPuts(r, many+5)
		puts := putsRoom[:many]
		cells := append(plainEncode(someKey, 6, puts), anyCell(r), anyCell(r))
		beforePuts, beforeCells, key := slices.Clone(putsRoom), slices.Clone(cells), slices.Clone(someKey)
		made, _ := redo.Encode(someKey, 6, puts)
		again, _ := redo.Encode(someKey, 6, puts)
		scribble(made, otherCell)
		if !slices.Equal(again, cells[:len(again)]) {
			t.Errorf("Encode, %d puts: another answer was changed", many)
		}
		first, second := decode(someKey, cells), decode(someKey, cells)
		scribble(first.puts, otherPut)
		if !second.like(entry{6, puts, true}) {
			t.Errorf("Decode, %d puts: another answer was changed", many)
		}
		merged, other := redo.Merge(puts...), redo.Merge(puts...)
		scribble(merged, otherPut)
		if !slices.Equal(other, plainMerge(puts)) {
			t.Errorf("Merge, %d puts: another answer was changed", many)
		}
		if !slices.Equal(putsRoom, beforePuts) || !slices.Equal(cells, beforeCells) || !bytes.Equal(someKey, key) {
			t.Errorf("%d puts: an argument was changed", many)
		}
		wantEncode(t, someKey, 6, puts)
		wantDecode(t, someKey, cells, entry{6, puts, true})
	}
}

// P10.4: puts that rise already, and no number twice, are merged to new memory, too.
func TestMergeOfMergedIsNew(t *testing.T) {
	puts := putsAt(dice(), 1, 2, 3, 9)
	before := slices.Clone(puts)
	merged := redo.Merge(puts...)
	scribble(merged, otherPut)
	if !slices.Equal(puts, before) {
		t.Error("the puts were changed")
	}
	merged = redo.Merge(puts...)
	scribble(puts, otherPut)
	if !slices.Equal(merged, before) {
		t.Error("the answer was changed")
	}
}

// P10.4: key, puts and sectors that are written over behind a call change nothing that was answered.
func TestNothingHandedInIsKept(t *testing.T) {
	r := dice()
	for _, many := range []int{0, 1, 5, 56} {
		key, puts := anyBytes(r, 32), anyPuts(r, many)
		ownKey, ownPuts := slices.Clone(key), slices.Clone(puts)
		want := plainEncode(key, 2, puts)
		cells, _ := redo.Encode(ownKey, 2, ownPuts)
		merged := redo.Merge(ownPuts...)
		clear(ownKey)
		scribble(ownPuts, otherPut)
		if !slices.Equal(cells, want) || !slices.Equal(merged, plainMerge(puts)) {
			t.Errorf("%d puts: Encode or Merge answers otherwise", many)
		}
		got := decode(key, cells)
		pairs := redo.Puts(cells)
		scribble(cells, otherCell)
		clear(key)
		if !got.like(entry{2, puts, true}) {
			t.Errorf("%d puts: Decode answers otherwise", many)
		}
		var numbers []int
		for _, p := range puts {
			numbers = append(numbers, p.At)
		}
		if told := take(pairs, math.MaxInt); !slices.Equal(told, paired(numbers)) {
			t.Errorf("%d puts: Puts answers otherwise, %v", many, told)
		}
	}
}

// P10.4: an iterator answers what sector 0 said when it was asked for, whatever is done with it ahead of a run, within one or between two.
func TestPutsOfSectorsThatAreChangedSince(t *testing.T) {
	numbers := rowOf(3, 1000, 20)
	for _, change := range []func(cells []api.Cell){
		func(cells []api.Cell) { clear(cells) },
		func(cells []api.Cell) { scribble(cells, otherCell) },
		func(cells []api.Cell) { cells[0][9] = 2 },
		func(cells []api.Cell) { cells[0][9] = 56 },
		func(cells []api.Cell) { cells[0][8] = 1 },
		func(cells []api.Cell) { copy(cells[0][12:], bytes.Repeat([]byte{9}, 60)) },
	} {
		cells := []api.Cell{plainFirst(1, 20, numbers...), {}}
		pairs := redo.Puts(cells)
		change(cells)
		if got := take(pairs, math.MaxInt); !slices.Equal(got, paired(numbers)) {
			t.Errorf("changed ahead of a run: %v", got)
		}
		cells = []api.Cell{plainFirst(1, 20, numbers...), {}}
		pairs = redo.Puts(cells)
		var got []pair
		for place, number := range pairs {
			got = append(got, pair{place, number})
			change(cells)
		}
		if again := take(pairs, math.MaxInt); !slices.Equal(got, paired(numbers)) || !slices.Equal(again, paired(numbers)) {
			t.Errorf("changed within a run: %v, %v", got, again)
		}
	}
}

// What a call answers hangs on its arguments alone, not on calls ahead of it, also where those were refused.
func TestCallsKeepNothing(t *testing.T) {
	r := dice()
	puts := anyPuts(r, 4)
	cells := plainEncode(someKey, 6, puts)
	for _, many := range []int{0, 1, 56, 57} {
		other := anyPuts(r, many)
		callAll(anyBytes(r, 9), other, plainEncode(someKey, 8, other))
		callAll(nil, append(other, other...), cells[1:])
		wantEncode(t, someKey, 6, puts)
		wantDecode(t, someKey, cells, entry{6, puts, true})
		if got := redo.Merge(puts...); !slices.Equal(got, plainMerge(puts)) {
			t.Errorf("Merge, behind %d puts: %v", many, got)
		}
		if got := take(redo.Puts(cells), 9); len(got) != 4 || got[3] != (pair{3, puts[3].At}) {
			t.Errorf("Puts, behind %d puts: %v", many, got)
		}
		wantStart(t, 5, 5, 6)
	}
}
