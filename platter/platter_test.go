package platter_test

import (
	"bytes"
	"iter"
	"math"
	"math/rand/v2"
	"slices"
	"testing"

	"citadel/api"
	"citadel/platter"
)

// plain is a disk by the chapter's words, sector by sector, without a call of the program.
type plain struct {
	sure, reads []api.Cell
	open        []bool
	counters    []int
	steps       int
	armed       int // -1: it isn't
	gone        bool
}

func newPlain(sectors, counters int) *plain {
	return &plain{sure: make([]api.Cell, sectors), reads: make([]api.Cell, sectors), open: make([]bool, sectors), counters: make([]int, counters), armed: -1}
}

// step is whether a step is made.
func (d *plain) step() bool {
	switch {
	case d.gone:
		return false
	case d.armed == 0:
		d.gone = true
		return false
	case d.armed > 0:
		d.armed--
	}
	d.steps++
	return true
}

// call is one of the calls that change a disk.
type call struct {
	kind  string
	at, n int // a place; how many, or a number
	cell  api.Cell
	b     []byte
	keep  []int
}

// do makes the call.
func (c call) do(p *platter.Platter) error {
	switch c.kind {
	case "write":
		return p.Write(c.at, c.cell)
	case "flush":
		return p.Flush(c.at, c.n)
	case "raise":
		return p.Raise(c.at, c.n)
	case "tamper":
		return p.Tamper(c.at, c.b)
	case "arm":
		return p.Arm(c.n)
	}
	p.Crash(c.keep...)
	return nil
}

// known is whether the call's arguments are such as the chapter takes.
func (c call) known(d *plain) bool {
	size := len(d.sure)
	switch c.kind {
	case "write":
		return c.at >= 0 && c.at < size
	case "tamper":
		return c.at >= 0 && c.at < size && len(c.b) <= 128
	case "flush":
		left := -1
		for at := size; at >= 0; at-- {
			if at == c.at {
				left = size - at
			}
		}
		return left >= 0 && c.n >= 0 && c.n <= left
	case "raise":
		return c.at >= 0 && c.at < len(d.counters) && c.n >= d.counters[c.at]
	case "arm":
		return c.n >= 0
	}
	return true
}

// plainly makes the call by the chapter's words.
func (c call) plainly(d *plain) error {
	if !c.known(d) {
		return api.ErrRange
	}
	if c.kind == "write" || c.kind == "flush" || c.kind == "raise" {
		if !d.step() {
			return api.ErrDown
		}
	}
	switch c.kind {
	case "write":
		d.reads[c.at], d.open[c.at] = c.cell, true
	case "flush":
		for at := c.at; at < c.at+c.n; at++ {
			d.sure[at], d.open[at] = d.reads[at], false
		}
	case "raise":
		d.counters[c.at] = c.n
	case "tamper":
		for i, x := range c.b {
			d.sure[c.at][i], d.reads[c.at][i] = x, x
		}
	case "arm":
		d.armed = c.n
	case "crash":
		for at := range d.open {
			if d.open[at] && slices.Contains(c.keep, at) {
				d.sure[at] = d.reads[at]
			}
			d.reads[at], d.open[at] = d.sure[at], false
		}
		d.armed, d.gone = -1, false
	}
	return nil
}

func makeDisk(t *testing.T, sectors, counters int) *platter.Platter {
	t.Helper()
	p, err := platter.New(sectors, counters)
	if p == nil || err != nil {
		t.Fatalf("New(%d, %d): %v", sectors, counters, err)
	}
	return p
}

// pair is a disk, and what it should be.
type pair struct {
	p *platter.Platter
	d *plain
}

func makePair(t *testing.T, sectors, counters int) pair {
	t.Helper()
	return pair{makeDisk(t, sectors, counters), newPlain(sectors, counters)}
}

// do makes calls, and tells where one answers otherwise than the plain disk.
func (x pair) do(t *testing.T, calls ...call) {
	t.Helper()
	for _, c := range calls {
		want := c.plainly(x.d)
		if err := c.do(x.p); err != want {
			t.Fatalf("%s %d %d, %d bytes, keep %v: %v, want %v", c.kind, c.at, c.n, len(c.b), c.keep, err, want)
		}
	}
}

// same tells where the disk isn't as it should be, by all calls that change nothing.
func (x pair) same(t *testing.T) {
	t.Helper()
	p, d := x.p, x.d
	if p.Size() != len(d.sure) || p.Steps() != d.steps || p.Down() != d.gone {
		t.Fatalf("size %d, steps %d, down %v, want %d, %d, %v", p.Size(), p.Steps(), p.Down(), len(d.sure), d.steps, d.gone)
	}
	var open []int
	for at := range d.reads {
		if d.open[at] {
			open = append(open, at)
		}
		want, refused := d.reads[at], error(nil)
		if d.gone {
			want, refused = api.Cell{}, api.ErrDown
		}
		if c, err := p.Read(at); c != want || err != refused {
			t.Fatalf("Read(%d): %x, %v, want %x, %v", at, c, err, want, refused)
		}
	}
	if got := slices.Collect(p.Open()); !slices.Equal(got, open) {
		t.Fatalf("open: %v, want %v", got, open)
	}
	for i, want := range d.counters {
		if n, err := p.Counter(i); n != want || err != nil {
			t.Fatalf("Counter(%d): %d, %v, want %d", i, n, err, want)
		}
	}
}

// settled tells where the disk isn't as it should be, also in the bytes that are sure; it ends with a crash.
func (x pair) settled(t *testing.T) {
	t.Helper()
	x.same(t)
	x.do(t, call{kind: "crash"})
	x.same(t)
}

func write(at int, first byte) call { return call{kind: "write", at: at, cell: full(first)} }
func flush(at, many int) call       { return call{kind: "flush", at: at, n: many} }
func raise(counter, n int) call     { return call{kind: "raise", at: counter, n: n} }
func tamper(at int, b ...byte) call { return call{kind: "tamper", at: at, b: b} }
func arm(n int) call                { return call{kind: "arm", n: n} }
func crash(keep ...int) call        { return call{kind: "crash", keep: keep} }

func dice() *rand.Rand { return rand.New(rand.NewPCG(9, 1)) }

func wantErr(t *testing.T, err, want error) {
	t.Helper()
	if err != want {
		t.Errorf("%v, want %v", err, want)
	}
}

// full is a sector whose bytes all differ from those of another one of these.
func full(first byte) api.Cell {
	var c api.Cell
	for i := range c {
		c[i] = first + byte(i)
	}
	return c
}

func anyBytes(r *rand.Rand, n int) []byte {
	b := make([]byte, n)
	for i := range b {
		b[i] = byte(r.Uint32())
	}
	return b
}

// badPlaces are places that there aren't in so many.
func badPlaces(size int) []int {
	return []int{-1, -2, -size, -1 << 31, -1 << 32, math.MinInt + 1, math.MinInt, size, size + 1, 2 * size, 1 << 20, 1 << 31, 1 << 32, 1<<32 + 1, 1 << 62, math.MaxInt - 1, math.MaxInt}
}

// ints are whole numbers about a size, and at the ends of all.
func ints(size int) []int {
	all := badPlaces(size)
	for n := range size {
		all = append(all, n)
	}
	return all
}

// P9.1: the chapter's example.
func TestExample(t *testing.T) {
	a, b, c := full(1), full(2), full(3)
	p := makeDisk(t, 2, 1)
	wantErr(t, p.Write(0, a), nil)
	wantErr(t, p.Flush(0, 1), nil)
	wantErr(t, p.Write(0, b), nil)
	wantErr(t, p.Write(1, c), nil)
	p.Crash(1)
	for at, want := range []api.Cell{a, c} {
		if got, err := p.Read(at); got != want || err != nil {
			t.Errorf("Read(%d): %x, %v", at, got, err)
		}
	}
}

// P9.1: disks of as many sectors and counters as the chapter takes, all noughts.
func TestNewDisks(t *testing.T) {
	for _, sectors := range []int{1, 2, 3, 117, 351, 2047, 2048} {
		for _, counters := range []int{1, 2, 3, 15, 16} {
			x := makePair(t, sectors, counters)
			x.settled(t)
			for _, i := range badPlaces(counters) {
				if n, err := x.p.Counter(i); n != 0 || err != api.ErrRange {
					t.Errorf("%d counters, Counter(%d): %d, %v", counters, i, n, err)
				}
			}
		}
	}
}

// P9.1: no other disks, and none beside the error.
func TestDisksThatThereAreNot(t *testing.T) {
	wrong := func(most int) []int {
		return []int{0, -1, -2, -most, most + 1, most + 2, 2 * most, 1 << 16, 1 << 31, 1<<32 + 1, 1 << 62, math.MaxInt, math.MinInt, math.MinInt + 1, math.MinInt + most}
	}
	refused := func(sectors, counters int) {
		if p, err := platter.New(sectors, counters); p != nil || err != api.ErrRange {
			t.Errorf("New(%d, %d): %v", sectors, counters, err)
		}
	}
	for _, sectors := range wrong(2048) {
		for _, counters := range []int{1, 2, 16} {
			refused(sectors, counters)
		}
		for _, counters := range wrong(16) {
			refused(sectors, counters)
		}
	}
	for _, counters := range wrong(16) {
		for _, sectors := range []int{1, 2, 2048} {
			refused(sectors, counters)
		}
	}
}

// P9.1: the first and the last sector and counter are written, flushed, tampered with and raised, and no other one.
func TestFirstAndLast(t *testing.T) {
	for _, size := range []int{1, 2, 3, 2048} {
		for _, counters := range []int{1, 2, 16} {
			x := makePair(t, size, counters)
			x.do(t, write(0, 1), write(size-1, 2))
			x.same(t)
			x.do(t, flush(size-1, 1))
			x.same(t)
			x.do(t, write(size-1, 3), tamper(0, 7, 8), tamper(size-1, 9))
			x.same(t)
			x.do(t, raise(0, 4), raise(counters-1, 5))
			x.same(t)
			x.do(t, flush(0, 1), crash())
			x.settled(t)
		}
	}
}

// P9.1: a sector that was written is open and reads what was written last, whatever it read, until it is flushed.
func TestWritesAndFlushes(t *testing.T) {
	x := makePair(t, 3, 1)
	for _, c := range []call{write(1, 1), write(1, 2), write(0, 3), flush(1, 1), write(1, 2), flush(0, 3), write(2, 0), flush(0, 2), flush(2, 1), flush(2, 1)} {
		x.do(t, c)
		x.same(t)
	}
	// Written with the bytes that are sure.
	x.do(t, call{kind: "write", at: 2, cell: x.d.sure[2]})
	if open := slices.Collect(x.p.Open()); !slices.Equal(open, []int{2}) {
		t.Errorf("open: %v", open)
	}
	x.settled(t)
}

// P9.1: flushes of each place and how many, whichever sectors are open.
func TestAllFlushes(t *testing.T) {
	for size := 1; size <= 4; size++ {
		for open := range 1 << size {
			for _, at := range ints(size) {
				for _, many := range ints(size) {
					x := makePair(t, size, 1)
					for i := range size {
						x.do(t, write(i, byte(i+1)))
					}
					x.do(t, flush(0, size))
					for i := range size {
						if open>>i&1 == 1 {
							x.do(t, write(i, byte(i+100)))
						}
					}
					x.do(t, flush(at, many))
					x.settled(t)
				}
			}
		}
	}
}

// P9.1: a flush of no sectors, from each place and from Size on, is a step, and settles none; of all it settles all.
func TestFlushesOfNoneAndOfAll(t *testing.T) {
	for _, size := range []int{1, 5, 2048} {
		for _, at := range []int{0, size / 2, size - 1, size} {
			x := makePair(t, size, 1)
			x.do(t, write(0, 1), write(size-1, 2))
			if err := x.p.Flush(at, 0); err != nil || x.p.Steps() != 3 || len(slices.Collect(x.p.Open())) != len(slices.Compact([]int{0, size - 1})) {
				t.Errorf("size %d, Flush(%d, 0): %v, steps %d", size, at, err, x.p.Steps())
			}
			x.d.steps++
			x.same(t)
			x.do(t, flush(0, size))
			x.settled(t)
		}
	}
}

// P9.1: a place and how many whose sum is no int, or is one that wrapped around, are refused.
func TestFlushesWhoseSumIsNoInt(t *testing.T) {
	for _, size := range []int{1, 4, 2048} {
		x := makePair(t, size, 1)
		x.do(t, write(0, 1), write(size-1, 2))
		for at := range min(size, 5) + 1 {
			for by := range 5 {
				x.do(t, flush(at, math.MaxInt-at+by), flush(at, math.MaxInt-by), flush(at, math.MinInt+by), flush(at, math.MinInt-at+by), flush(math.MaxInt-by, at), flush(math.MinInt+by, at), flush(math.MaxInt-by, math.MaxInt-at), flush(-at-1, at+1+by), flush(at, -by-1))
			}
		}
		for _, at := range badPlaces(size)[:7] {
			x.do(t, flush(at, -at), flush(at, size-at), flush(-at, at))
		}
		if x.p.Steps() != 2 {
			t.Errorf("size %d: %d steps", size, x.p.Steps())
		}
		x.settled(t)
	}
}

// P9.1: a counter is raised to what it is, to more and to the greatest int, never to less, and no other one.
func TestRaises(t *testing.T) {
	x := makePair(t, 1, 16)
	for i := range 16 {
		for _, n := range []int{-1, math.MinInt, 0, 0, 1, 0, 1, 5, 4, -5, 5, 1 << 40, 1<<40 - 1, 5, 1 << 62, math.MaxInt - 1, math.MaxInt, math.MaxInt - 1, math.MinInt, math.MinInt + 1, 0, math.MaxInt} {
			x.do(t, raise(i, n))
			x.same(t)
		}
	}
	x.do(t, crash())
	x.same(t)
}

// P9.1: sectors and counters that there aren't, and too many bytes, are refused, with power, armed with 0 and without power alike, with nothing beside the error; nothing is changed, and the power doesn't go.
func TestRefusedCalls(t *testing.T) {
	for _, size := range []int{1, 3, 16, 2048} {
		for _, counters := range []int{1, 3, 16} {
			for _, ahead := range [][]call{{}, {arm(1)}, {arm(0)}, {arm(0), flush(0, 0)}} {
				x := makePair(t, size, counters)
				x.do(t, write(size-1, 1), raise(counters-1, 7))
				x.do(t, ahead...)
				for _, at := range badPlaces(size) {
					x.do(t, write(at, 9), tamper(at), tamper(at, 9), call{kind: "tamper", at: at, b: make([]byte, 129)}, flush(at, -1))
					if at != size {
						x.do(t, flush(at, 0), flush(at, 1))
					}
					if c, err := x.p.Read(at); c != (api.Cell{}) || err != api.ErrRange {
						t.Errorf("Read(%d): %x, %v", at, c, err)
					}
				}
				for _, i := range badPlaces(counters) {
					x.do(t, raise(i, 100), raise(i, 0), raise(i, -1), raise(i, math.MaxInt))
					if n, err := x.p.Counter(i); n != 0 || err != api.ErrRange {
						t.Errorf("Counter(%d): %d, %v", i, n, err)
					}
				}
				x.do(t, raise(counters-1, 6), raise(counters-1, -1), raise(counters-1, math.MinInt), flush(size, 1), flush(0, size+1), flush(size-1, 2), flush(0, -1))
				for _, n := range []int{129, 130, 255, 256, 257, 1 << 16} {
					x.do(t, call{kind: "tamper", at: size - 1, b: make([]byte, n)})
				}
				x.do(t, arm(-1), arm(-2), arm(math.MinInt), arm(math.MinInt+1))
				x.same(t)
				// As many steps are left as there were.
				x.do(t, flush(0, 0), flush(0, 0))
				x.same(t)
			}
		}
	}
}

// P9.1: armed with n, a disk makes n steps of any kinds, and none more; without one being asked for, the power stays.
func TestArmed(t *testing.T) {
	steps := []func(i int) call{
		func(i int) call { return write(i%3, byte(i)) },
		func(i int) call { return flush(i%3, 1) },
		func(i int) call { return flush(3, 0) },
		func(i int) call { return raise(0, i) },
		func(i int) call { return raise(1, 0) },
		func(i int) call { return write(2, 0) },
	}
	for n := range 14 {
		for first := range steps {
			x := makePair(t, 3, 2)
			x.do(t, write(1, 77), arm(n))
			x.same(t)
			for i := range n {
				if err := steps[(first+i)%len(steps)](i).do(x.p); err != nil {
					t.Fatalf("armed with %d, step %d: %v", n, i, err)
				}
				if err := steps[(first+i)%len(steps)](i).plainly(x.d); err != nil || x.p.Down() {
					t.Fatalf("armed with %d, step %d: down %v", n, i, x.p.Down())
				}
				x.same(t)
			}
			for i := n; i < n+4; i++ {
				if err := steps[(first+i)%len(steps)](i).do(x.p); err != api.ErrDown || !x.p.Down() || x.p.Steps() != n+1 {
					t.Fatalf("armed with %d, step %d: %v, down %v, steps %d", n, i, err, x.p.Down(), x.p.Steps())
				}
			}
			x.d.gone = true
			x.settled(t)
		}
	}
}

// P9.1: what isn't a step makes none, whatever it is armed with, and isn't stopped.
func TestCallsThatAreNoSteps(t *testing.T) {
	for _, n := range []int{0, 1, 2} {
		x := makePair(t, 2, 1)
		x.do(t, write(0, 1), arm(n))
		for range 5 {
			x.do(t, tamper(0, 5), tamper(1, 6))
			x.same(t)
		}
		for range n {
			x.do(t, write(1, 2))
		}
		if x.p.Down() || x.p.Steps() != n+1 {
			t.Errorf("armed with %d: down %v, steps %d", n, x.p.Down(), x.p.Steps())
		}
		x.do(t, write(1, 3))
		x.settled(t)
	}
}

// P9.1: armed again, the last one counts; a disk that isn't armed makes any number of steps.
func TestArmedAgain(t *testing.T) {
	for first := range 4 {
		for second := range 4 {
			for between := range first + 1 {
				x := makePair(t, 1, 1)
				x.do(t, arm(first))
				for range between {
					x.do(t, write(0, 1))
				}
				x.do(t, arm(second))
				for range second {
					if err := x.p.Write(0, api.Cell{}); err != nil {
						t.Errorf("armed with %d, then %d: %v", first, second, err)
					}
				}
				if err := x.p.Write(0, api.Cell{}); err != api.ErrDown || x.p.Steps() != between+second {
					t.Errorf("armed with %d, then %d: %v, steps %d", first, second, err, x.p.Steps())
				}
			}
		}
	}
	for _, n := range []int{math.MaxInt, math.MaxInt - 1, 1 << 32, 1 << 40} {
		x := makePair(t, 1, 1)
		x.do(t, arm(n))
		for i := range 1000 {
			x.do(t, raise(0, i))
		}
		x.settled(t)
	}
	x := makePair(t, 1, 1)
	for i := range 10000 {
		x.do(t, write(0, byte(i)))
	}
	x.settled(t)
}

// P9.1: armed when the power is gone, it stays gone; behind a crash it isn't armed.
func TestArmedWithoutPower(t *testing.T) {
	for _, n := range []int{0, 1, 5, math.MaxInt} {
		x := makePair(t, 2, 1)
		x.do(t, write(0, 1), arm(0), write(1, 2), arm(n))
		x.same(t)
		if !x.p.Down() {
			t.Errorf("armed with %d: there is power", n)
		}
		for range 7 {
			x.do(t, write(1, 3), flush(0, 2), raise(0, 1))
		}
		x.same(t)
		x.do(t, crash(0))
		for range 7 {
			x.do(t, write(1, 3), flush(0, 2), raise(0, 1))
			x.same(t)
		}
	}
}

// P9.1: without power sectors are neither written, flushed nor read, and counters aren't raised; counters are told, sectors tampered with, and the open ones, the size and the steps told.
func TestWithoutPower(t *testing.T) {
	x := makePair(t, 4, 2)
	x.do(t, write(0, 1), flush(0, 1), write(1, 2), write(3, 3), raise(1, 8), arm(0), raise(1, 9))
	x.same(t)
	for at := range 4 {
		if c, err := x.p.Read(at); c != (api.Cell{}) || err != api.ErrDown {
			t.Errorf("Read(%d): %x, %v", at, c, err)
		}
		wantErr(t, x.p.Write(at, full(7)), api.ErrDown)
		wantErr(t, x.p.Flush(at, 1), api.ErrDown)
	}
	wantErr(t, x.p.Flush(4, 0), api.ErrDown)
	for i := range 2 {
		wantErr(t, x.p.Raise(i, 100), api.ErrDown)
	}
	x.do(t, tamper(0, 9, 9), tamper(1, 8), tamper(2, 7), tamper(3))
	if n, err := x.p.Counter(1); n != 8 || err != nil || x.p.Size() != 4 || x.p.Steps() != 5 || !x.p.Down() || !slices.Equal(slices.Collect(x.p.Open()), []int{1, 3}) {
		t.Errorf("%d, %v, size %d, steps %d, down %v", n, err, x.p.Size(), x.p.Steps(), x.p.Down())
	}
	x.same(t)
	x.do(t, crash(1))
	x.settled(t)
}

// P9.1: crashes of each set of open sectors that keep each set of them, with and without power.
func TestAllCrashes(t *testing.T) {
	const size = 4
	for open := range 1 << size {
		for keep := range 1 << size {
			for _, ahead := range [][]call{{}, {arm(3)}, {arm(0)}, {arm(0), write(0, 50)}} {
				x := makePair(t, size, 1)
				var kept []int
				for at := range size {
					x.do(t, write(at, byte(at)))
				}
				x.do(t, flush(0, size), raise(0, 3))
				for at := range size {
					if open>>at&1 == 1 {
						x.do(t, write(at, byte(at+100)))
					}
					if keep>>at&1 == 1 {
						kept = append(kept, at)
					}
				}
				x.do(t, ahead...)
				x.do(t, crash(kept...))
				for at := range size {
					want := full(byte(at))
					if (open&keep)>>at&1 == 1 {
						want = full(byte(at + 100))
					}
					if c, err := x.p.Read(at); c != want || err != nil {
						t.Fatalf("open %b, keep %v, Read(%d): %x, %v", open, kept, at, c, err)
					}
				}
				x.same(t)
				x.do(t, write(0, 9), flush(0, 1), write(1, 9), raise(0, 4))
				x.settled(t)
			}
		}
	}
}

// P9.1: a crash that keeps sectors twice, in any order, such as aren't open, and places that there aren't.
func TestKeptPlaces(t *testing.T) {
	for _, keep := range [][]int{
		nil, {}, {0}, {1}, {2}, {0, 0}, {2, 0}, {2, 1, 0}, {0, 2, 0, 2, 1}, {3}, {-1}, {3, -1, 0}, {-3, -2, -1}, {4, 5, 6},
		badPlaces(3), append(badPlaces(3), 2), slices.Concat([]int{0}, badPlaces(3)), {math.MinInt, 2, math.MaxInt}, {1 << 32}, {1<<32 + 2}, {256, 258},
	} {
		x := makePair(t, 3, 1)
		x.do(t, write(0, 1), write(1, 2), flush(0, 2), write(0, 3), write(2, 4))
		x.do(t, crash(keep...))
		x.same(t)
		x.settled(t)
	}
	many := make([]int, 1<<20)
	for i := range many {
		many[i] = i%4096 - 1024
	}
	x := makePair(t, 2048, 1)
	for at := range 2048 {
		x.do(t, write(at, byte(at)))
	}
	x.do(t, crash(many...))
	x.settled(t)
}

// P9.1: a crash without a loss of power settles the sectors all the same, and lets the armed disk go on; steps and counters stay.
func TestCrashesWithoutALossOfPower(t *testing.T) {
	x := makePair(t, 2, 2)
	x.do(t, crash(), crash(0, 1))
	x.same(t)
	x.do(t, write(0, 1), write(1, 2), raise(1, 6), arm(0), crash(1))
	x.same(t)
	for range 3 {
		x.do(t, write(0, 3), flush(0, 2), raise(0, 1), arm(1), crash(0))
		x.same(t)
	}
	if x.p.Steps() != 12 {
		t.Errorf("steps: %d", x.p.Steps())
	}
	x.settled(t)
}

// P9.1: sectors are tampered with by as many bytes as there may be, open or not, kept or not, with power and without; they stay open.
func TestTampering(t *testing.T) {
	r := dice()
	for n := range 129 {
		for _, keep := range [][]int{nil, {0}, {1}, {0, 1}} {
			for _, ahead := range [][]call{{}, {arm(0), flush(0, 0)}} {
				x := makePair(t, 3, 1)
				x.do(t, write(0, 1), write(1, 2), flush(0, 2), write(0, 3))
				x.do(t, ahead...)
				b := anyBytes(r, n+r.IntN(9))[:n]
				x.do(t, tamper(0, b...), tamper(1, b...))
				if open := slices.Collect(x.p.Open()); !slices.Equal(open, []int{0}) {
					t.Errorf("%d bytes, open: %v", n, open)
				}
				x.same(t)
				x.do(t, crash(keep...))
				c, err := x.p.Read(0)
				want := full(1)
				if slices.Contains(keep, 0) {
					want = full(3)
				}
				if !bytes.Equal(c[:n], b) || !bytes.Equal(c[n:], want[n:]) || err != nil {
					t.Errorf("%d bytes, keep %v: %x, %v", n, keep, c, err)
				}
				x.settled(t)
			}
		}
	}
}

// P9.1: a sector that was tampered with is written, flushed and tampered with again as any other one.
func TestTamperedSectors(t *testing.T) {
	x := makePair(t, 2, 1)
	for _, c := range []call{tamper(0, 1, 2), write(0, 9), tamper(0, 3), tamper(0, 4, 5, 6), flush(0, 1), tamper(0), write(0, 8), tamper(0, 7), crash(0), tamper(0, 1), crash(), tamper(1, 1, 2, 3), crash(1)} {
		x.do(t, c)
		x.same(t)
	}
	x.settled(t)
}

// some is the first numbers of an iterator, by a loop that is left.
func some(open iter.Seq[int], most int) []int {
	var taken []int
	for at := range open {
		taken = append(taken, at)
		if len(taken) == most {
			break
		}
	}
	return taken
}

// P9.1: the open sectors come rising, however they were written; the iterator may be left anywhere, and run again.
func TestOpenSectors(t *testing.T) {
	for _, size := range []int{1, 2, 7, 100, 2048} {
		p := makeDisk(t, size, 1)
		order := dice().Perm(size)[:(size+1)/2]
		for _, at := range order {
			wantErr(t, p.Write(at, full(1)), nil)
			wantErr(t, p.Write(at, full(2)), nil)
		}
		slices.Sort(order)
		open := p.Open()
		for _, most := range []int{1, 2, 3, len(order) - 1, len(order), len(order) + 1} {
			want := order[:min(max(most, 1), len(order))]
			if most < 1 {
				want = order
			}
			if got := some(open, most); !slices.Equal(got, want) {
				t.Errorf("size %d, %d of them: %v, want %v", size, most, got, want)
			}
			if got := slices.Collect(open); !slices.Equal(got, order) {
				t.Errorf("size %d, run again: %v, want %v", size, got, order)
			}
		}
		if p.Steps() != 2*len(order) || p.Down() {
			t.Errorf("size %d: %d steps", size, p.Steps())
		}
	}
	for range makeDisk(t, 3, 1).Open() {
		t.Error("a new disk has an open sector")
	}
}

// P9.1: an iterator answers which sectors were open when it was asked for, whatever was written, flushed and crashed since; asked for anew, it tells what is open then.
func TestOpenSectorsOfThen(t *testing.T) {
	for _, since := range [][]call{
		{write(0, 1)}, {write(1, 5)}, {write(0, 1), write(2, 1), write(4, 1)}, {flush(1, 1)}, {flush(3, 1)}, {flush(0, 5)},
		{flush(1, 1), write(4, 1)}, {crash()}, {crash(1, 3)}, {arm(0), flush(0, 5)}, {tamper(2, 1)}, {tamper(1, make([]byte, 128)...)},
	} {
		x := makePair(t, 5, 1)
		x.do(t, write(3, 1), write(1, 2))
		open := x.p.Open()
		if got := some(open, 1); !slices.Equal(got, []int{1}) {
			t.Errorf("ahead: %v", got)
		}
		x.do(t, since...)
		for range 2 {
			if got := slices.Collect(open); !slices.Equal(got, []int{1, 3}) {
				t.Errorf("since: %v", got)
			}
		}
		x.settled(t)
	}
}

// P9.1: sectors are written, flushed and crashed within a loop over the open ones, which goes on as it began.
func TestOpenSectorsWithinALoop(t *testing.T) {
	for _, within := range []func(at int) []call{
		func(at int) []call { return []call{flush(at, 1)} },
		func(at int) []call { return []call{write(at+1, 9)} },
		func(at int) []call { return []call{flush(0, 9), write(at, 9)} },
		func(at int) []call { return []call{crash(at)} },
		func(at int) []call { return []call{arm(0), flush(0, 0)} },
	} {
		x := makePair(t, 9, 1)
		x.do(t, write(6, 1), write(0, 2), write(3, 3))
		var got []int
		for at := range x.p.Open() {
			got = append(got, at)
			x.do(t, within(at)...)
			x.same(t)
		}
		if !slices.Equal(got, []int{0, 3, 6}) {
			t.Errorf("%v", got)
		}
		x.settled(t)
	}
}

// P9.1: a nil Platter's answers.
func TestNilPlatter(t *testing.T) {
	var p *platter.Platter
	for _, at := range ints(3) {
		wantErr(t, p.Write(at, full(1)), api.ErrRange)
		wantErr(t, p.Tamper(at, nil), api.ErrRange)
		wantErr(t, p.Tamper(at, make([]byte, 129)), api.ErrRange)
		wantErr(t, p.Arm(at), api.ErrRange)
		if c, err := p.Read(at); c != (api.Cell{}) || err != api.ErrRange {
			t.Errorf("Read(%d): %x, %v", at, c, err)
		}
		if n, err := p.Counter(at); n != 0 || err != api.ErrRange {
			t.Errorf("Counter(%d): %d, %v", at, n, err)
		}
		for _, n := range ints(3) {
			wantErr(t, p.Flush(at, n), api.ErrRange)
			wantErr(t, p.Raise(at, n), api.ErrRange)
		}
		p.Crash(at)
	}
	p.Crash()
	for at := range p.Open() {
		t.Errorf("open: %d", at)
	}
	if p.Size() != 0 || p.Steps() != 0 || !p.Down() {
		t.Errorf("size %d, steps %d, down %v", p.Size(), p.Steps(), p.Down())
	}
}

// P9.1: all rows of up to four calls on a disk of two sectors.
func TestAllFewCalls(t *testing.T) {
	calls := []call{
		write(0, 1), write(0, 2), write(1, 3), flush(0, 1), flush(0, 2), flush(2, 0), flush(1, 2),
		raise(0, 2), raise(0, 1), tamper(0, 9), tamper(1, 8), arm(0), arm(1), crash(), crash(0), crash(1, 0),
	}
	rows := [][]call{nil}
	for range 5 {
		var longer [][]call
		for _, row := range rows {
			x := makePair(t, 2, 1)
			x.do(t, row...)
			x.settled(t)
			if len(row) == 4 {
				continue
			}
			for _, c := range calls {
				longer = append(longer, append(slices.Clone(row), c))
			}
		}
		rows = longer
	}
}

// anyCall is a call with arguments that are often such as the chapter takes.
func anyCall(r *rand.Rand, d *plain) call {
	size, counters := len(d.sure), len(d.counters)
	at, n := r.IntN(size+2)-1, r.IntN(size+2)-1
	if r.IntN(30) == 0 {
		all := badPlaces(size)
		at, n = all[r.IntN(len(all))], all[r.IntN(len(all))]
	}
	switch k := r.IntN(20); {
	case k < 8:
		return call{kind: "write", at: at, cell: api.Cell(anyBytes(r, 128))}
	case k < 11:
		return flush(at, n)
	case k < 13:
		i := r.IntN(counters+2) - 1
		return raise(i, d.counters[max(min(i, counters-1), 0)]+r.IntN(5)-1)
	case k < 16:
		return tamper(at, anyBytes(r, min(r.IntN(140), r.IntN(140)))...)
	case k < 18:
		return arm(r.IntN(12) - 1)
	}
	keep := make([]int, r.IntN(size+1))
	for i := range keep {
		keep[i] = r.IntN(size+2) - 1
	}
	return crash(keep...)
}

// P9.1: any calls in any order, on disks of many sizes, each held against the chapter's words.
func TestAnyCalls(t *testing.T) {
	r := dice()
	for _, size := range []int{1, 2, 3, 5, 8, 40} {
		for range 40 {
			x := makePair(t, size, 1+r.IntN(16))
			for range 120 {
				x.do(t, anyCall(r, x.d))
				x.same(t)
			}
			x.settled(t)
		}
	}
	x := makePair(t, 2048, 16)
	for i := range 4000 {
		x.do(t, anyCall(r, x.d))
		if i%100 == 0 {
			x.same(t)
		}
	}
	x.settled(t)
}

// script is steps on four sectors and a counter.
func script(r *rand.Rand) []call {
	var steps []call
	for i := range 12 {
		at := r.IntN(4)
		switch r.IntN(5) {
		case 0:
			steps = append(steps, flush(at, r.IntN(5-at)))
		case 1:
			steps = append(steps, raise(0, i))
		default:
			steps = append(steps, write(at, byte(r.Uint32())))
		}
	}
	return steps
}

// told is what a script's first steps leave: of each sector what was flushed last, and all that was written since, and the counter.
type told struct {
	flushed [4]api.Cell
	since   [4][]api.Cell
	counter int
}

func tell(steps []call) told {
	var x told
	for _, c := range steps {
		switch c.kind {
		case "write":
			x.since[c.at] = append(x.since[c.at], c.cell)
		case "flush":
			for at := c.at; at < c.at+c.n; at++ {
				if n := len(x.since[at]); n > 0 {
					x.flushed[at] = x.since[at][n-1]
				}
				x.since[at] = nil
			}
		case "raise":
			x.counter = c.n
		}
	}
	return x
}

// P9.2: behind a crash at each step that keeps each set of sectors, what was flushed is there; of the rest each sector is as it was ahead, or, where it is kept, as it was written last; the counter is as it was raised last.
func TestCrashesAtEachStep(t *testing.T) {
	r := dice()
	for range 60 {
		steps := script(r)
		for cut := range len(steps) + 1 {
			left := tell(steps[:cut])
			for keep := range 16 {
				p := makeDisk(t, 4, 1)
				wantErr(t, p.Arm(cut), nil)
				for i, c := range steps {
					want := error(nil)
					if i >= cut {
						want = api.ErrDown
					}
					wantErr(t, c.do(p), want)
				}
				var kept []int
				for at := range 4 {
					if keep>>at&1 == 1 {
						kept = append(kept, at)
					}
				}
				p.Crash(kept...)
				for at := range 4 {
					want := left.flushed[at]
					if n := len(left.since[at]); n > 0 && keep>>at&1 == 1 {
						want = left.since[at][n-1]
					}
					if c, err := p.Read(at); c != want || err != nil {
						t.Fatalf("cut at %d, keep %v, sector %d: %x, %v, want %x", cut, kept, at, c, err, want)
					}
				}
				if n, err := p.Counter(0); n != left.counter || err != nil {
					t.Fatalf("cut at %d: counter %d, %v, want %d", cut, n, err, left.counter)
				}
			}
		}
	}
}

// P9.2: what was flushed is there behind crash upon crash, whatever is kept and however many sectors there are.
func TestFlushedStays(t *testing.T) {
	r := dice()
	for _, size := range []int{1, 2, 117, 2048} {
		p := makeDisk(t, size, 1)
		want := make([]api.Cell, size)
		for at := range want {
			want[at] = api.Cell(anyBytes(r, 128))
			wantErr(t, p.Write(at, want[at]), nil)
		}
		wantErr(t, p.Flush(0, size), nil)
		all := r.Perm(size)
		for i := range 6 {
			for _, at := range all[:size/2] {
				wantErr(t, p.Write(at, full(byte(i))), nil)
			}
			if i%2 == 0 {
				wantErr(t, p.Arm(0), nil)
				wantErr(t, p.Flush(0, size), api.ErrDown)
			}
			p.Crash(all[size/2:]...)
			for at := range want {
				if c, err := p.Read(at); c != want[at] || err != nil {
					t.Fatalf("size %d, crash %d, sector %d: %x, %v", size, i, at, c, err)
				}
			}
		}
	}
}

// P9.2: counters never fall, by any calls.
func TestCountersNeverFall(t *testing.T) {
	r := dice()
	for range 50 {
		d := newPlain(3, 4)
		p := makeDisk(t, 3, 4)
		for range 200 {
			var before, after [4]int
			for i := range before {
				before[i], _ = p.Counter(i)
			}
			c := anyCall(r, d)
			if r.IntN(2) == 0 {
				c = raise(r.IntN(4), r.IntN(40)-3)
			}
			_, _ = c.do(p), c.plainly(d)
			for i := range after {
				after[i], _ = p.Counter(i)
				if after[i] < before[i] || c.kind != "raise" && after[i] != before[i] {
					t.Fatalf("%s %d %d: counter %d was %d, is %d", c.kind, c.at, c.n, i, before[i], after[i])
				}
			}
		}
	}
}

// P9.3: bytes and places, and all room behind them, stay as they are, whether the call is refused or not.
func TestNothingHandedInIsChanged(t *testing.T) {
	r := dice()
	for _, n := range []int{0, 1, 2, 100, 127, 128, 129, 300} {
		for _, at := range []int{-1, 0, 1, 2} {
			room, places := anyBytes(r, n+200), r.Perm(n+50)
			before, placesBefore := slices.Clone(room), slices.Clone(places)
			p := makeDisk(t, 2, 1)
			_ = p.Write(0, full(3))
			_ = p.Tamper(at, room[:n])
			_ = p.Write(1, full(4))
			p.Crash(places[:n]...)
			_ = p.Write(0, full(5))
			_ = p.Tamper(at, room[:n])
			_ = p.Flush(0, 2)
			if !bytes.Equal(room, before) || !slices.Equal(places, placesBefore) {
				t.Errorf("%d bytes and places, sector %d: something was changed", n, at)
			}
		}
	}
}

// P9.3: bytes and places are not kept: what they are changed to behind the call, no later call tells; nor does what stands in the room behind them.
func TestNothingHandedInIsKept(t *testing.T) {
	for _, n := range []int{0, 1, 64, 127, 128} {
		x := makePair(t, 3, 1)
		x.do(t, write(0, 1), write(2, 2))
		room := bytes.Repeat([]byte{0xee}, 128)
		x.do(t, tamper(0, slices.Clone(room[:n])...), tamper(1, slices.Clone(room[:n])...))
		wantErr(t, x.p.Tamper(0, room[:n]), nil)
		wantErr(t, x.p.Tamper(1, room[:n]), nil)
		clear(room)
		x.same(t)
		keep := []int{0, 1, 2}
		x.p.Crash(keep[:1]...)
		wantErr(t, call{kind: "crash", keep: []int{0}}.plainly(x.d), nil)
		keep[0] = 2
		x.same(t)
		x.do(t, write(0, 6), write(2, 7))
		x.settled(t)
	}
}

// P9.3: a sector that is written or read is told apart from the caller's own, which may be changed behind the call.
func TestCellsAreApart(t *testing.T) {
	p := makeDisk(t, 2, 1)
	c := full(1)
	wantErr(t, p.Write(0, c), nil)
	clear(c[:])
	first, _ := p.Read(0)
	if first != full(1) {
		t.Errorf("a sector that was handed in is kept: %x", first)
	}
	clear(first[:])
	if second, _ := p.Read(0); second != full(1) {
		t.Errorf("an open sector was changed by an answer: %x", second)
	}
	wantErr(t, p.Flush(0, 1), nil)
	third, _ := p.Read(0)
	clear(third[:])
	if fourth, _ := p.Read(0); fourth != full(1) {
		t.Errorf("a sure sector was changed by an answer: %x", fourth)
	}
}

// P9.3: disks share nothing: what one is told, no other one tells.
func TestDisksAreApart(t *testing.T) {
	first, second := makePair(t, 3, 2), makePair(t, 3, 2)
	first.do(t, write(0, 1), flush(0, 1), write(1, 2), raise(1, 5), tamper(2, 9), arm(0), flush(0, 0))
	second.same(t)
	second.do(t, write(0, 3), write(2, 4), raise(0, 6))
	first.same(t)
	second.same(t)
	first.settled(t)
	second.settled(t)
	makePair(t, 3, 2).settled(t)
}
