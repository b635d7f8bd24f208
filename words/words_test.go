package words_test

import (
	"bytes"
	"encoding/binary"
	"io"
	"iter"
	"math"
	"math/big"
	"math/rand/v2"
	"slices"
	"testing"

	"citadel/api"
	"citadel/words"
)

// The chapter's words, made plainly, over other makes of numbers and of reading, without a call of the program.

// plainNumber is a number as bytes.
func plainNumber(size, n int) ([]byte, error) {
	switch size {
	case 1, 2, 4:
		number := big.NewInt(int64(n))
		if number.Sign() < 0 || number.BitLen() > 8*size {
			return nil, api.ErrRange
		}
		return number.FillBytes(make([]byte, size)), nil
	case 8:
		return binary.BigEndian.AppendUint64(nil, uint64(n)), nil
	}
	return nil, api.ErrForm
}

// plainTake is the number that bytes begin with.
func plainTake(b []byte, size int) (int, []byte, error) {
	if !slices.Contains(sizes, size) || len(b) < size {
		return 0, nil, api.ErrForm
	}
	number := new(big.Int).SetBytes(b[:size])
	if size == 8 && b[0] >= 0x80 {
		number.Sub(number, new(big.Int).Lsh(big.NewInt(1), 64))
	}
	return int(number.Int64()), slices.Clone(b[size:]), nil
}

type placed struct {
	at  int
	row []byte
}

// plainRows is the rows that bytes begin with, and how many bytes these are.
func plainRows(b []byte) ([]placed, int) {
	var rows []placed
	r := bytes.NewReader(b)
	for {
		at := len(b) - r.Len()
		var n uint16
		if binary.Read(r, binary.BigEndian, &n) != nil {
			return rows, at
		}
		row := make([]byte, n)
		if _, err := io.ReadFull(r, row); err != nil {
			return rows, at
		}
		rows = append(rows, placed{at, row})
	}
}

// plainRow is a row as bytes.
func plainRow(row []byte) []byte {
	return slices.Concat([]byte{byte(len(row) / 256), byte(len(row) % 256)}, row)
}

var sizes = []int{1, 2, 4, 8}

// badSizes are sizes that there aren't, also such as cut to fewer bits would be some.
var badSizes = []int{0, 3, 5, 6, 7, 9, 10, 12, 15, 16, 17, 24, 32, 64, 128, 255, 256, 257, 258, 260, 264, 1 << 16, 1<<16 + 2, 1 << 31, 1<<32 + 1, 1<<32 + 4, 1<<61 + 1, 1 << 62, math.MaxInt - 1, math.MaxInt, -1, -2, -3, -4, -8, -16, math.MinInt32, math.MinInt + 1, math.MinInt + 8, math.MinInt}

// edges are numbers beside the edges of all sizes, of both signs.
func edges() []int {
	var numbers []int
	for bits := range 64 {
		for by := -2; by <= 2; by++ {
			n := 1<<bits + by
			numbers = append(numbers, n, -n)
		}
	}
	return append(numbers, math.MaxInt, math.MaxInt-1, math.MinInt, math.MinInt+1, 0x0102030405060708, -0x0102030405060708)
}

func dice() *rand.Rand { return rand.New(rand.NewPCG(8, 1)) }

func anyBytes(r *rand.Rand, n int) []byte {
	b := make([]byte, n)
	for i := range b {
		b[i] = byte(r.Uint32())
	}
	return b
}

// smallBytes is bytes of few values, so that rows begin in many places.
func smallBytes(r *rand.Rand, n int) []byte {
	b := make([]byte, n)
	for i := range b {
		if r.IntN(2) == 0 {
			b[i] = byte(r.IntN(6))
		}
	}
	return b
}

// someBytes are bytes of many lengths, none among them.
func someBytes(r *rand.Rand) [][]byte {
	some := [][]byte{nil, {}, make([]byte, 0, 64)}
	for n := 1; n < 20; n++ {
		some = append(some, anyBytes(r, n), anyBytes(r, 2*n+40)[:n])
	}
	return append(some, anyBytes(r, 300), anyBytes(r, 70000))
}

// rowSizes are rows' lengths at the edges of a byte, and of two.
var rowSizes = []int{0, 1, 2, 127, 128, 254, 255, 256, 257, 511, 512, 32767, 32768, 65280, 65534, 65535}

// rowTexts are bytes that are rows alone, that are rows and then none, and that begin with none.
func rowTexts(r *rand.Rand) [][]byte {
	texts := [][]byte{nil, {}, {0}, {1}, {255}, {0, 0}, {0, 1}, {1, 0}, {255, 255}, {0, 1, 9}, {0, 1, 9, 8}, {0, 0, 0}, {0, 0, 0, 1}, {0, 2, 9}}
	for _, n := range rowSizes {
		row := plainRow(anyBytes(r, n))
		texts = append(texts, row, row[:len(row)-1], append(slices.Clone(row), 0), slices.Concat(row, []byte{0, 3, 1, 2, 3}), slices.Concat([]byte{0, 3, 1, 2, 3}, row), slices.Concat(row, []byte{0, 3, 1, 2}), slices.Concat(row, row[:len(row)-1]))
	}
	for n := range 200 {
		texts = append(texts, smallBytes(r, n))
	}
	return texts
}

// take is the first so many rows, by a loop that is left.
func take(rows iter.Seq2[int, []byte], most int) []placed {
	var taken []placed
	for at, row := range rows {
		taken = append(taken, placed{at, row})
		if len(taken) == most {
			break
		}
	}
	return taken
}

func like(a, b []placed) bool {
	return slices.EqualFunc(a, b, func(x, y placed) bool { return x.at == y.at && bytes.Equal(x.row, y.row) })
}

// brief is the beginning of bytes, for telling.
func brief(b []byte) []byte { return b[:min(len(b), 40)] }

// wantPut tells where a number isn't put as the plain make does.
func wantPut(t *testing.T, out []byte, size, n int) {
	t.Helper()
	want, wantErr := plainNumber(size, n)
	if wantErr == nil {
		want = slices.Concat(out, want)
	}
	if b, err := words.Put(out, size, n); !bytes.Equal(b, want) || err != wantErr {
		t.Errorf("Put, %d bytes, size %d, %d: %x, %v, want %x, %v", len(out), size, n, brief(b), err, brief(want), wantErr)
	}
}

// wantTake tells where a number isn't taken as the plain make does.
func wantTake(t *testing.T, b []byte, size int) {
	t.Helper()
	want, wantRest, wantErr := plainTake(b, size)
	if n, rest, err := words.Take(b, size); n != want || !bytes.Equal(rest, wantRest) || err != wantErr {
		t.Errorf("Take, %d bytes, %x, size %d: %d, %x, %v, want %d, %x, %v", len(b), brief(b), size, n, brief(rest), err, want, brief(wantRest), wantErr)
	}
}

// wantRow tells where a row isn't put behind bytes.
func wantRow(t *testing.T, out, row []byte) {
	t.Helper()
	want := slices.Concat(out, plainRow(row))
	if b, err := words.Row(out, row); !bytes.Equal(b, want) || err != nil {
		t.Errorf("Row, %d bytes, %d bytes: %x, %v, want %x", len(out), len(row), brief(b), err, brief(want))
	}
}

// wantRows tells where the rows that bytes begin with aren't those of the plain make, asked in all ways.
func wantRows(t *testing.T, b []byte) {
	t.Helper()
	want, end := plainRows(b)
	if rows := take(words.Rows(b), math.MaxInt); !like(rows, want) {
		t.Errorf("Rows, %d bytes, %x: %d rows, want %d", len(b), brief(b), len(rows), len(want))
	}
	if whole := words.Whole(b); whole != (end == len(b)) {
		t.Errorf("Whole, %d bytes, %x: %v", len(b), brief(b), whole)
	}
	row, rest, err := words.TakeRow(b)
	if len(want) == 0 {
		if row != nil || rest != nil || err != api.ErrForm {
			t.Errorf("TakeRow, %d bytes, %x: %x, %x, %v", len(b), brief(b), brief(row), brief(rest), err)
		}
		return
	}
	if !bytes.Equal(row, want[0].row) || !bytes.Equal(rest, b[2+len(want[0].row):]) || err != nil {
		t.Errorf("TakeRow, %d bytes, %x: %x, %x, %v", len(b), brief(b), brief(row), brief(rest), err)
	}
}

// P8.1: the chapter's examples.
func TestExamples(t *testing.T) {
	for _, none := range [][]byte{nil, {}} {
		if b, err := words.Put(none, 2, 300); !bytes.Equal(b, []byte{1, 0x2c}) || err != nil {
			t.Errorf("Put: %x, %v", b, err)
		}
		if b, err := words.Row(none, []byte("ab")); !bytes.Equal(b, []byte{0, 2, 0x61, 0x62}) || err != nil {
			t.Errorf("Row: %x, %v", b, err)
		}
	}
	if n, rest, err := words.Take([]byte{1, 0x2c}, 2); n != 300 || len(rest) != 0 || err != nil {
		t.Errorf("Take: %d, %x, %v", n, rest, err)
	}
	if row, rest, err := words.TakeRow([]byte{0, 2, 0x61, 0x62}); string(row) != "ab" || len(rest) != 0 || err != nil {
		t.Errorf("TakeRow: %q, %x, %v", row, rest, err)
	}
}

// P8.1: numbers at the edges of each size, written out.
func TestNumbersWrittenOut(t *testing.T) {
	for _, c := range []struct {
		size, n int
		want    string
	}{
		{1, 0, "\x00"},
		{1, 1, "\x01"},
		{1, 255, "\xff"},
		{2, 0, "\x00\x00"},
		{2, 255, "\x00\xff"},
		{2, 256, "\x01\x00"},
		{2, 65535, "\xff\xff"},
		{4, 0, "\x00\x00\x00\x00"},
		{4, 0x01020304, "\x01\x02\x03\x04"},
		{4, 1 << 31, "\x80\x00\x00\x00"},
		{4, 1<<32 - 1, "\xff\xff\xff\xff"},
		{8, 0, "\x00\x00\x00\x00\x00\x00\x00\x00"},
		{8, 1, "\x00\x00\x00\x00\x00\x00\x00\x01"},
		{8, 1 << 32, "\x00\x00\x00\x01\x00\x00\x00\x00"},
		{8, 0x0102030405060708, "\x01\x02\x03\x04\x05\x06\x07\x08"},
		{8, -1, "\xff\xff\xff\xff\xff\xff\xff\xff"},
		{8, -256, "\xff\xff\xff\xff\xff\xff\xff\x00"},
		{8, math.MaxInt, "\x7f\xff\xff\xff\xff\xff\xff\xff"},
		{8, math.MinInt, "\x80\x00\x00\x00\x00\x00\x00\x00"},
	} {
		if b, err := words.Put([]byte("ab"), c.size, c.n); string(b) != "ab"+c.want || err != nil {
			t.Errorf("Put, size %d, %d: %x, %v", c.size, c.n, b, err)
		}
		if n, rest, err := words.Take([]byte(c.want+"ab"), c.size); n != c.n || string(rest) != "ab" || err != nil {
			t.Errorf("Take, size %d, %x: %d, %x, %v", c.size, c.want, n, rest, err)
		}
	}
}

// P8.1: a number that hasn't its size is refused, with nothing beside the error.
func TestNumbersThatHaveNotTheirSize(t *testing.T) {
	for _, c := range []struct{ size, n int }{
		{1, 256}, {1, 257}, {1, 65535}, {1, 1 << 32}, {1, math.MaxInt}, {1, -1}, {1, -128}, {1, -255}, {1, -256}, {1, math.MinInt},
		{2, 65536}, {2, 65537}, {2, 1 << 32}, {2, math.MaxInt}, {2, -1}, {2, -32768}, {2, -65535}, {2, -65536}, {2, math.MinInt},
		{4, 1 << 32}, {4, 1<<32 + 1}, {4, 1 << 62}, {4, math.MaxInt}, {4, -1}, {4, math.MinInt32}, {4, -1 << 32}, {4, math.MinInt},
	} {
		for _, out := range [][]byte{nil, {}, []byte("ab"), make([]byte, 3, 99)} {
			if b, err := words.Put(out, c.size, c.n); b != nil || err != api.ErrRange {
				t.Errorf("Put, size %d, %d: %x, %v", c.size, c.n, b, err)
			}
		}
	}
}

// P8.1: numbers beside all edges, of both signs, of each size, behind bytes of many lengths.
func TestNumbersBesideEdges(t *testing.T) {
	r := dice()
	outs := someBytes(r)
	for _, size := range sizes {
		for i, n := range edges() {
			wantPut(t, nil, size, n)
			wantPut(t, outs[i%(len(outs)-1)], size, n)
		}
		for _, out := range outs {
			wantPut(t, out, size, 200)
		}
	}
}

// P8.1: any numbers of each size, of any number of bits.
func TestAnyNumbers(t *testing.T) {
	r := dice()
	for range 5000 {
		n := int(r.Uint64()) >> r.IntN(64)
		for _, size := range sizes {
			wantPut(t, anyBytes(r, r.IntN(12)), size, n)
		}
	}
}

// P8.1: all numbers of sizes 1 and 2, and those beside.
func TestAllSmallNumbers(t *testing.T) {
	for n := -300; n < 66000; n++ {
		for _, size := range []int{1, 2} {
			if size == 2 || n < 700 {
				wantPut(t, nil, size, n)
			}
		}
	}
}

// P8.1: sizes that there aren't are refused, whether a number would have them or not, with nothing beside the error.
func TestBadSizes(t *testing.T) {
	r := dice()
	texts := someBytes(r)
	for _, size := range badSizes {
		for _, n := range edges() {
			if b, err := words.Put([]byte{1}, size, n); b != nil || err != api.ErrForm {
				t.Errorf("Put, size %d, %d: %x, %v", size, n, b, err)
			}
		}
		for _, text := range texts {
			if b, err := words.Put(text, size, 0); b != nil || err != api.ErrForm {
				t.Errorf("Put, %d bytes, size %d: %x, %v", len(text), size, brief(b), err)
			}
			if n, rest, err := words.Take(text, size); n != 0 || rest != nil || err != api.ErrForm {
				t.Errorf("Take, %d bytes, size %d: %d, %x, %v", len(text), size, n, brief(rest), err)
			}
		}
	}
}

// P8.1: a number is taken from bytes of all lengths; from fewer than its size none is, whatever stands in the room behind them.
func TestTakeOfAllLengths(t *testing.T) {
	r := dice()
	for _, size := range sizes {
		wantTake(t, nil, size)
		for n := range 20 {
			wantTake(t, anyBytes(r, n), size)
			wantTake(t, bytes.Repeat([]byte{0xff}, 40)[:n], size)
			got, rest, err := words.Take(anyBytes(r, 40)[:n], size)
			if n < size && (got != 0 || rest != nil || err != api.ErrForm) {
				t.Errorf("Take, %d bytes with room, size %d: %d, %x, %v", n, size, got, rest, err)
			}
		}
		wantTake(t, anyBytes(r, 1<<20), size)
	}
}

// P8.1: any bytes begin with a number of each size that has as many bytes, also where the highest bit is set.
func TestTakeOfAnyBytes(t *testing.T) {
	r := dice()
	for i := range 4000 {
		b := anyBytes(r, r.IntN(14))
		if len(b) > 0 && i%3 == 0 {
			b[0] |= 0x80
		}
		for _, size := range sizes {
			wantTake(t, b, size)
		}
	}
	for n := range 1 << 16 {
		b := []byte{byte(n >> 8), byte(n)}
		if got, rest, err := words.Take(b, 2); got != n || len(rest) != 0 || err != nil {
			t.Errorf("Take(%x): %d, %x, %v", b, got, rest, err)
		}
	}
}

// P8.1: rows of lengths at the edges, behind bytes of many lengths.
func TestRowsOfAllLengths(t *testing.T) {
	r := dice()
	outs := someBytes(r)
	for i, n := range rowSizes {
		row := anyBytes(r, n)
		wantRow(t, nil, row)
		wantRow(t, outs[i%len(outs)], row)
		wantRow(t, outs[len(outs)-1], row)
	}
	for n := range 700 {
		wantRow(t, outs[n%(len(outs)-1)], anyBytes(r, n))
	}
	for _, out := range outs {
		wantRow(t, out, nil)
		wantRow(t, out, []byte{})
		wantRow(t, out, anyBytes(r, 30)[:10])
	}
}

// P8.1: a row of more than 65535 bytes is refused, with nothing beside the error.
func TestRowsThatAreTooLong(t *testing.T) {
	for _, n := range []int{65536, 65537, 65538, 65791, 65792, 1 << 17, 1<<17 - 1, 1 << 20, 1<<24 + 2} {
		for _, out := range [][]byte{nil, {}, []byte("ab"), make([]byte, 70000)} {
			if b, err := words.Row(out, make([]byte, n)); b != nil || err != api.ErrRange {
				t.Errorf("Row, %d bytes: %x, %v", n, brief(b), err)
			}
		}
	}
}

// P8.1: all bytes of up to six places and five values, by TakeRow, Rows and Whole.
func TestAllFewBytes(t *testing.T) {
	values := []byte{0, 1, 2, 3, 255}
	level := [][]byte{{}}
	for range 7 {
		var next [][]byte
		for _, b := range level {
			wantRows(t, b)
			for _, x := range values {
				next = append(next, append(slices.Clone(b), x))
			}
		}
		level = next
	}
}

// P8.1: rows alone, bytes that end within a row's first two or within its bytes, and none.
func TestRowsAndEnds(t *testing.T) {
	r := dice()
	for _, b := range rowTexts(r) {
		wantRows(t, b)
	}
	for range 3000 {
		wantRows(t, smallBytes(r, r.IntN(40)))
	}
}

// P8.1: rows one behind the other, cut at each place.
func TestRowsCutAnywhere(t *testing.T) {
	r := dice()
	var all []byte
	for _, n := range []int{0, 3, 1, 0, 0, 255, 256, 2, 257, 0} {
		all = append(all, plainRow(anyBytes(r, n))...)
	}
	for n := range len(all) + 1 {
		wantRows(t, all[:n])
		wantRows(t, slices.Clone(all[:n]))
	}
}

// P8.1: what was put together by hand comes with its places.
func TestRowsWrittenOut(t *testing.T) {
	b := []byte("\x00\x02ab\x00\x00\x00\x01c\x00\x04de")
	want := []placed{{0, []byte("ab")}, {4, nil}, {6, []byte("c")}}
	if rows := take(words.Rows(b), math.MaxInt); !like(rows, want) {
		t.Errorf("Rows: %v", rows)
	}
	for n, whole := range map[int]bool{0: true, 1: false, 2: false, 3: false, 4: true, 5: false, 6: true, 7: false, 8: false, 9: true, 10: false, 11: false, 12: false, 13: false} {
		if words.Whole(b[:n]) != whole {
			t.Errorf("Whole, %d bytes: %v", n, !whole)
		}
	}
	if !words.Whole(nil) || !words.Whole([]byte{}) {
		t.Error("Whole: none are no rows")
	}
	if row, rest, err := words.TakeRow(b[4:]); len(row) != 0 || !bytes.Equal(rest, b[6:]) || err != nil {
		t.Errorf("TakeRow, an empty row: %x, %x, %v", row, rest, err)
	}
}

// P8.1: what stands in the room behind bytes counts for nothing.
func TestSpareRoomCountsForNothing(t *testing.T) {
	room := []byte("\x00\x02ab\x00\x00\x00\x01c\x00\x04defg")
	for n := range len(room) {
		wantRows(t, room[:n])
		if whole, cut := words.Whole(room[:n]), words.Whole(slices.Clone(room[:n])); whole != cut {
			t.Errorf("Whole, %d bytes: %v", n, whole)
		}
		wantRow(t, room[:n], room[3:5])
		wantPut(t, room[:n], 2, 7)
	}
	if b, err := words.Row(make([]byte, 2, 99), make([]byte, 65535, 70000)); len(b) != 65539 || err != nil {
		t.Errorf("Row: %d bytes, %v", len(b), err)
	}
}

// P8.1: rows in great number are gone through in one go, and so is a great one.
func TestManyRows(t *testing.T) {
	empty := make([]byte, 1<<22)
	count := 0
	for at, row := range words.Rows(empty) {
		if at != 2*count || len(row) != 0 {
			t.Fatalf("%d: %d, %x", count, at, row)
		}
		count++
	}
	if count != 1<<21 || !words.Whole(empty) || words.Whole(empty[1:]) {
		t.Errorf("Rows: %d", count)
	}
	long := bytes.Repeat(plainRow(make([]byte, 65535)), 20)
	wantRows(t, long)
	wantRows(t, long[:len(long)-1])
}

// P8.1: rows that are left anywhere end there; run again they begin anew.
func TestRowsLeftAndRunAgain(t *testing.T) {
	r := dice()
	var b []byte
	for n := range 9 {
		b = append(b, plainRow(anyBytes(r, n%4))...)
	}
	b = append(b, 0, 9)
	want, _ := plainRows(b)
	rows := words.Rows(b)
	for most := 1; most <= len(want); most++ {
		if got := take(rows, most); !like(got, want[:most]) {
			t.Errorf("left behind %d: %v", most, got)
		}
		calls := 0
		rows(func(int, []byte) bool { calls++; return calls < most })
		if calls != most {
			t.Errorf("left behind %d calls: %d", most, calls)
		}
	}
	for range 2 {
		if got := take(rows, math.MaxInt); !like(got, want) {
			t.Errorf("run again: %v", got)
		}
	}
	for _, none := range [][]byte{nil, {}, {0}, {0, 1}} {
		rows := words.Rows(none)
		if rows == nil {
			t.Fatalf("%x: no iterator", none)
		}
		for range 2 {
			if got := take(rows, 10); got != nil {
				t.Errorf("%x: %v", none, got)
			}
		}
	}
}

// P8.1: rows within themselves, and two runs row by row, know nothing of one another.
func TestRowsWithinThemselves(t *testing.T) {
	b := []byte("\x00\x02ab\x00\x00\x00\x01c\x00\x03def\x00\x01g\x00\x04de")
	want, _ := plainRows(b)
	rows := words.Rows(b)
	i := 0
	for at, row := range rows {
		if inner := take(rows, i+1); !like(inner, want[:i+1]) || !like([]placed{{at, row}}, want[i:i+1]) {
			t.Errorf("within %d: %d, %x, %v", i, at, row, inner)
		}
		i++
	}
	one, stopOne := iter.Pull2(rows)
	two, stopTwo := iter.Pull2(rows)
	defer stopOne()
	defer stopTwo()
	for i := range want {
		if at, row, ok := one(); at != want[i].at || !bytes.Equal(row, want[i].row) || !ok {
			t.Errorf("one, %d: %d, %x, %v", i, at, row, ok)
		}
		if i%2 == 0 {
			continue
		}
		if at, row, ok := two(); at != want[i/2].at || !bytes.Equal(row, want[i/2].row) || !ok {
			t.Errorf("two, %d: %d, %x, %v", i/2, at, row, ok)
		}
	}
	if at, row, ok := one(); at != 0 || row != nil || ok {
		t.Errorf("one, at its end: %d, %x, %v", at, row, ok)
	}
}

// P8.1: sectors of all lengths, with room and without; more than 128 bytes are refused, with noughts beside the error.
func TestFill(t *testing.T) {
	r := dice()
	for n := range 300 {
		for _, b := range [][]byte{anyBytes(r, n), anyBytes(r, n+200)[:n], bytes.Repeat([]byte{0xff}, n), make([]byte, n)} {
			var want api.Cell
			var wantErr error
			if n > 128 {
				wantErr = api.ErrRange
			} else {
				for i, x := range b {
					want[i] = x
				}
			}
			if cell, err := words.Fill(b); cell != want || err != wantErr {
				t.Errorf("Fill, %d bytes: %x, %v", n, cell, err)
			}
		}
	}
	if cell, err := words.Fill(nil); cell != (api.Cell{}) || err != nil {
		t.Errorf("Fill, none: %x, %v", cell, err)
	}
	for _, n := range []int{384, 1 << 16, 1<<16 + 1, 1 << 20} {
		if cell, err := words.Fill(bytes.Repeat([]byte{1}, n)); cell != (api.Cell{}) || err != api.ErrRange {
			t.Errorf("Fill, %d bytes: %x, %v", n, cell, err)
		}
	}
}

// P8.2: numbers that are put one behind the other are taken, one behind the other.
func TestNumbersPutAreTaken(t *testing.T) {
	r := dice()
	type number struct{ size, n int }
	for range 200 {
		var all []byte
		var put []number
		for range 20 {
			x := number{sizes[r.IntN(4)], int(r.Uint64()) >> r.IntN(64)}
			b, err := words.Put(all, x.size, x.n)
			if _, wantErr := plainNumber(x.size, x.n); err != wantErr {
				t.Fatalf("Put %v: %v", x, err)
			}
			if err == nil {
				all, put = b, append(put, x)
			}
		}
		for _, x := range put {
			n, rest, err := words.Take(all, x.size)
			if n != x.n || len(rest) != len(all)-x.size || err != nil {
				t.Fatalf("Take %v: %d, %v", x, n, err)
			}
			all = rest
		}
		if len(all) != 0 {
			t.Errorf("left: %x", all)
		}
	}
	for _, n := range edges() {
		b, _ := words.Put(nil, 8, n)
		if got, rest, err := words.Take(b, 8); got != n || len(rest) != 0 || err != nil {
			t.Errorf("Take(Put(%d)): %d, %x, %v", n, got, rest, err)
		}
	}
}

// P8.2: a number that is taken is put again as the bytes that it was taken from.
func TestNumbersTakenHaveOneForm(t *testing.T) {
	r := dice()
	for range 3000 {
		b := anyBytes(r, 8+r.IntN(4))
		for _, size := range sizes {
			n, rest, err := words.Take(b, size)
			again, err2 := words.Put(nil, size, n)
			if !bytes.Equal(append(again, rest...), b) || err != nil || err2 != nil {
				t.Errorf("Put(Take(%x)), size %d: %x, %v, %v", b, size, again, err, err2)
			}
		}
	}
	seen := make([]bool, 1<<16)
	for form := range 1 << 16 {
		n, _, err := words.Take([]byte{byte(form >> 8), byte(form)}, 2)
		if err != nil || seen[n] {
			t.Fatalf("%x: %d, %v", form, n, err)
		}
		seen[n] = true
	}
}

// P8.2: rows that are put one behind the other are taken one behind the other, by TakeRow and by Rows, and are rows alone.
func TestRowsPutAreTaken(t *testing.T) {
	r := dice()
	for i := range 100 {
		var all []byte
		var put []placed
		for range i % 9 {
			row := anyBytes(r, r.IntN(400)>>r.IntN(9))
			b, err := words.Row(all, row)
			if err != nil {
				t.Fatal(err)
			}
			put = append(put, placed{len(all), row})
			all = b
		}
		if rows := take(words.Rows(all), math.MaxInt); !like(rows, put) || !words.Whole(all) {
			t.Errorf("Rows: %v, want %v", rows, put)
		}
		rest := all
		for _, x := range put {
			row, behind, err := words.TakeRow(rest)
			if !bytes.Equal(row, x.row) || !bytes.Equal(behind, rest[2+len(x.row):]) || err != nil {
				t.Fatalf("TakeRow: %x, %v, want %x", row, err, x.row)
			}
			rest = behind
		}
		if _, _, err := words.TakeRow(rest); err != api.ErrForm {
			t.Errorf("TakeRow, at the end: %v", err)
		}
	}
	for _, n := range rowSizes {
		want := anyBytes(r, n)
		b, _ := words.Row(nil, want)
		if row, rest, err := words.TakeRow(b); !bytes.Equal(row, want) || len(rest) != 0 || err != nil || !words.Whole(b) {
			t.Errorf("TakeRow(Row), %d bytes: %x, %v", n, brief(row), err)
		}
	}
}

// P8.2: rows that are taken are put again as the bytes that they were taken from.
func TestRowsTakenHaveOneForm(t *testing.T) {
	for _, b := range rowTexts(dice()) {
		var again []byte
		for at, row := range words.Rows(b) {
			if at != len(again) {
				t.Errorf("%x: a row at %d, want %d", brief(b), at, len(again))
			}
			again, _ = words.Row(again, row)
		}
		if !bytes.HasPrefix(b, again) || words.Whole(b) != (len(again) == len(b)) {
			t.Errorf("%x: put again %x", brief(b), brief(again))
		}
		if row, rest, err := words.TakeRow(b); err == nil {
			first, _ := words.Row(nil, row)
			if !bytes.Equal(append(first, rest...), b) {
				t.Errorf("Row(TakeRow(%x)): %x", brief(b), brief(first))
			}
		}
	}
}

// callAll makes all calls with bytes, refused ones among them.
func callAll(b, row []byte) {
	for _, size := range []int{-1, 0, 1, 2, 3, 4, 8, 9} {
		words.Put(b, size, 200)
		words.Put(b, size, -1)
		words.Take(b, size)
	}
	words.Row(b, row)
	words.TakeRow(b)
	words.Whole(b)
	words.Fill(b)
	take(words.Rows(b), 2)
	take(words.Rows(b), math.MaxInt)
}

// P8.3: bytes, and all room behind them, stay as they are, whether the call is refused or not.
func TestNothingHandedInIsChanged(t *testing.T) {
	r := dice()
	for _, n := range []int{0, 1, 2, 3, 4, 7, 8, 9, 100, 127, 128, 129, 500, 66000} {
		for _, m := range []int{0, 1, 20, 300, 65535, 65536} {
			outRoom, rowRoom := smallBytes(r, n+100), anyBytes(r, m+100)
			outBefore, rowBefore := slices.Clone(outRoom), slices.Clone(rowRoom)
			callAll(outRoom[:n], rowRoom[:m])
			if !bytes.Equal(outRoom, outBefore) || !bytes.Equal(rowRoom, rowBefore) {
				t.Errorf("%d bytes, a row of %d: something was changed", n, m)
			}
		}
	}
}

// P8.3: bytes and a row that share memory, or room, are told apart, and stay as they are.
func TestBytesAndRowThatShare(t *testing.T) {
	r := dice()
	room := anyBytes(r, 60)
	before := slices.Clone(room)
	for from := 0; from < 20; from += 3 {
		for n := range 20 {
			for at := 0; at < 30; at += 2 {
				out, row := room[from:from+n], room[at:at+9]
				wantRow(t, out, row)
				wantRow(t, row, out)
				if !bytes.Equal(room, before) {
					t.Fatalf("%d bytes from %d on, a row from %d on: something was changed", n, from, at)
				}
			}
		}
	}
}

// scribble changes a row with all its room.
func scribble(row []byte) {
	row = row[:cap(row)]
	for i := range row {
		row[i] ^= 0xff
	}
}

// P8.3: what is answered is new memory, with its room: changing it changes no argument and no other answer.
func TestAnswersAreNew(t *testing.T) {
	r := dice()
	b := append(plainRow(anyBytes(r, 30)), anyBytes(r, 90)...)[:50]
	row := anyBytes(r, 60)[:20]
	before, rowBefore := slices.Clone(b[:cap(b)]), slices.Clone(row[:cap(row)])
	for name, call := range map[string]func() [][]byte{
		"Put":             func() [][]byte { x, _ := words.Put(b, 4, 1000); return [][]byte{x} },
		"Put, none":       func() [][]byte { x, _ := words.Put(nil, 4, 1000); return [][]byte{x} },
		"Put, no bytes":   func() [][]byte { x, _ := words.Put(b[:0], 4, 1000); return [][]byte{x} },
		"Take":            func() [][]byte { _, x, _ := words.Take(b, 2); return [][]byte{x} },
		"Row":             func() [][]byte { x, _ := words.Row(b, row); return [][]byte{x} },
		"Row, none":       func() [][]byte { x, _ := words.Row(nil, row); return [][]byte{x} },
		"Row, no bytes":   func() [][]byte { x, _ := words.Row(b[:0], row); return [][]byte{x} },
		"Row, empty":      func() [][]byte { x, _ := words.Row(b, nil); return [][]byte{x} },
		"TakeRow":         func() [][]byte { x, y, _ := words.TakeRow(b); return [][]byte{x, y} },
		"TakeRow, alone":  func() [][]byte { x, y, _ := words.TakeRow(b[:32]); return [][]byte{x, y} },
		"Take, none left": func() [][]byte { _, x, _ := words.Take(b[:8], 8); return [][]byte{x} },
	} {
		first := call()
		second := call()
		want := slices.Clone(second)
		for i, x := range second {
			want[i] = slices.Clone(x)
		}
		for _, x := range first {
			scribble(x)
		}
		for i, x := range second {
			if !bytes.Equal(x, want[i]) {
				t.Errorf("%s: another answer was changed", name)
			}
			// The parts of one answer: each is changed alone.
			scribble(x)
			for j, y := range second {
				if j > i && !bytes.Equal(y, want[j]) {
					t.Errorf("%s: another part of the answer was changed", name)
				}
			}
		}
		for i, x := range call() {
			if !bytes.Equal(x, want[i]) {
				t.Errorf("%s: a later answer was changed", name)
			}
		}
		if !bytes.Equal(b[:cap(b)], before) || !bytes.Equal(row[:cap(row)], rowBefore) {
			t.Errorf("%s: an argument was changed", name)
		}
	}
}

// P8.3: a row and the bytes behind it share no memory, nor room, whichever is changed.
func TestPartsOfOneAnswerAreApart(t *testing.T) {
	b := []byte("\x00\x03abcdefgh")
	row, rest, _ := words.TakeRow(b)
	scribble(rest)
	if string(row) != "abc" {
		t.Errorf("the row was changed: %q", row)
	}
	row, rest, _ = words.TakeRow(b)
	scribble(row)
	if string(rest) != "defgh" {
		t.Errorf("the bytes behind were changed: %q", rest)
	}
	row, rest, _ = words.TakeRow(b)
	_, _ = append(row, 1, 2, 3), append(rest, 4)
	if string(row) != "abc" || string(rest) != "defgh" || string(b) != "\x00\x03abcdefgh" {
		t.Errorf("appended: %q, %q, %q", row, rest, b)
	}
}

// P8.3: the rows of an iterator are new memory in each run: changing one changes no row behind it, none of another run, and nothing that was handed in.
func TestRowsAreNew(t *testing.T) {
	b := []byte("\x00\x02ab\x00\x00\x00\x01c\x00\x03def\x00\x01g\x00\x04de")
	want, _ := plainRows(b)
	before := slices.Clone(b)
	rows := words.Rows(b)
	i := 0
	for at, row := range rows {
		if !like([]placed{{at, row}}, want[i:i+1]) {
			t.Errorf("%d: %d, %x", i, at, row)
		}
		scribble(row)
		i++
	}
	first, second, third := take(rows, math.MaxInt), take(rows, math.MaxInt), take(words.Rows(b), math.MaxInt)
	for _, x := range first {
		scribble(x.row)
	}
	if i != len(want) || !like(second, want) || !like(third, want) || !bytes.Equal(b, before) {
		t.Errorf("scribbled: %d rows, %v, %v, %x", i, second, third, b)
	}
	for i, x := range second {
		scribble(x.row)
		if !like(second[i+1:], want[i+1:]) {
			t.Errorf("scribbled %d: %v", i, second)
		}
	}
	if fourth := take(rows, math.MaxInt); !like(fourth, want) {
		t.Errorf("a later run: %v", fourth)
	}
}

// P8.3: an iterator answers what was handed in as it was then, whatever is done with it ahead of a run, within one or between two.
func TestRowsOfBytesThatAreChangedSince(t *testing.T) {
	const text = "\x00\x02ab\x00\x00\x00\x01c\x00\x03def\x00\x01g\x00\x04de"
	want, _ := plainRows([]byte(text))
	for _, change := range []func(b []byte){
		func(b []byte) { clear(b) },
		scribble,
		func(b []byte) { b[1] = 1 },
		func(b []byte) { copy(b, "\xff\xff") },
		func(b []byte) { copy(b[2:], "xyz") },
		func(b []byte) { b[len(b)-3] = 2 },
	} {
		b := []byte(text)
		rows := words.Rows(b)
		change(b)
		if got := take(rows, math.MaxInt); !like(got, want) {
			t.Errorf("changed ahead of a run: %v", got)
		}
		b = []byte(text)
		rows = words.Rows(b)
		var got []placed
		for at, row := range rows {
			got = append(got, placed{at, row})
			change(b)
		}
		if again := take(rows, math.MaxInt); !like(got, want) || !like(again, want) {
			t.Errorf("changed within a run: %v, %v", got, again)
		}
	}
}

// P8.3: bytes that are changed behind a call change nothing that was answered.
func TestNothingHandedInIsKept(t *testing.T) {
	b, row := []byte("\x00\x02abcdefgh"), []byte("xy")
	put, _ := words.Put(b, 1, 7)
	_, rest, _ := words.Take(b, 4)
	joined, _ := words.Row(b, row)
	taken, behind, _ := words.TakeRow(b)
	cell, _ := words.Fill(b)
	clear(b)
	clear(row)
	if string(put) != "\x00\x02abcdefgh\x07" || string(rest) != "cdefgh" || string(joined) != "\x00\x02abcdefgh\x00\x02xy" {
		t.Errorf("%q, %q, %q", put, rest, joined)
	}
	if string(taken) != "ab" || string(behind) != "cdefgh" || string(cell[:10]) != "\x00\x02abcdefgh" {
		t.Errorf("%q, %q, %q", taken, behind, cell[:10])
	}
	wantRows(t, b)
	wantRow(t, b, row)
}

// What a call answers hangs on its arguments alone, not on calls ahead of it, also where those were refused.
func TestCallsKeepNothing(t *testing.T) {
	r := dice()
	b := []byte("\x00\x02ab\x00\x01c\x09")
	for _, n := range []int{0, 1, 2, 9, 128, 129, 300} {
		callAll(smallBytes(r, n), anyBytes(r, n))
		callAll(anyBytes(r, n), make([]byte, 65536))
		wantRows(t, b)
		wantRow(t, b, b[2:4])
		for _, size := range sizes {
			wantPut(t, b, size, 77)
			wantPut(t, nil, size, -3)
			wantTake(t, b, size)
		}
		if cell, err := words.Fill(b); string(cell[:9]) != string(b)+"\x00" || cell[127] != 0 || err != nil {
			t.Errorf("Fill, behind %d bytes: %x, %v", n, cell, err)
		}
	}
}
