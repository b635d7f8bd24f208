package vault_test

import (
	"bytes"
	"math/rand/v2"
	"slices"
	"strconv"
	"testing"

	"citadel/api"
	"citadel/vault"
)

// set sets a tenant's sector to other bytes, on the disk and on the plain one.
func (x *pair) set(t *testing.T, at int, b []byte) {
	t.Helper()
	if err := x.p.Tamper(base+at, b); err != nil {
		t.Fatal(err)
	}
	copy(x.d.sure[at][:], b)
	copy(x.d.reads[at][:], b)
}

// spoil changes a sector's first eight bytes.
func (x *pair) spoil(t *testing.T, r *rand.Rand, at int) {
	t.Helper()
	b := x.d.reads[at][:8]
	b[r.IntN(8)] ^= 1 << r.IntN(8)
	x.set(t, at, b)
}

// wantRightOrRefused tells where a vault reads anything but these texts, and how many blocks are refused.
func wantRightOrRefused(t *testing.T, v *vault.Vault, all texts) int {
	t.Helper()
	refused := 0
	for unit := range 2 {
		for block := range 16 {
			c, err := v.Read(unit, block)
			if err == api.ErrTamper && c == (api.Cell{}) {
				refused++
			} else if err != nil || c != all.blocks[unit][block] {
				t.Fatalf("Read(%d, %d): %x, %v, want %x, or refused", unit, block, c, err, all.blocks[unit][block])
			}
		}
		if c, err := v.Note(unit); err != nil || c != all.notes[unit] {
			t.Fatalf("Note(%d): %x, %v, want %x", unit, c, err, all.notes[unit])
		}
	}
	return refused
}

// tamperCase is a disk, what it reads, and what all of its sectors held before.
type tamperCase struct {
	d    *plainDisk
	all  texts
	held []*plainDisk
}

// twoStates is a tenant of which everything was written twice, and what it held: behind the Format, behind the first writing, and within the second.
func twoStates(t *testing.T, r *rand.Rand) tamperCase {
	t.Helper()
	c := tamperCase{held: []*plainDisk{formatted(0)}}
	x := started(t, c.held[0])
	for range 2 {
		keep := *x.d
		c.held = append(c.held, &keep)
		lines := slices.Concat(linesOf(r, 0, 0, 1, 2, 5, 8), linesOf(r, 1, 3, 15))
		notes := []api.Put{{At: 0, Cell: anyCell(r)}, {At: 1, Cell: anyCell(r)}}
		x.do(t, committing("a commit", lines, notes))
		c.all = c.all.with(lines, notes)
		if len(c.held) == 2 {
			fresh := anyBytes(r, 64)
			within := *x.d
			x.do(t, committing("unit 1", linesOf(r, 1, 1, 2, 3), nil), erasing("an erasure", 1, fresh), committing("unit 1 anew", lines[5:], nil))
			c.held = append(c.held, &within)
		}
	}
	c.d = x.d
	return c
}

// P12.3: each sector alone, changed in a byte or set back to what it held before: blocks are read by the running vault and behind a start as the disk says them, right or refused; a sector of a block that was written is refused, and no other block with it; head, log and trees mend or refuse; slots and notes are refused at the start.
func TestEachSectorTamperedWith(t *testing.T) {
	t.Parallel()
	r := dice()
	c := twoStates(t, r)
	for at := range 117 {
		x := started(t, c.d)
		kept := x.d.reads[at]
		for i := range len(c.held) + 1 {
			// Of many like sectors each is set back in one way, and of the log's each is tampered with in one.
			if at >= 5 && i != at%5 && (i > 0 || at < 69) || i > 0 && c.held[i-1].reads[at] == kept {
				continue
			}
			if i == 0 {
				x.spoil(t, r, at)
			} else {
				x.set(t, at, c.held[i-1].reads[at][:])
			}
			refused := wantRightOrRefused(t, x.v, c.all)
			if isTree := at >= 69 && (at-69)%24 >= 16; isTree {
				x.wantReads(t)
			} else if want := c.written(at); refused != want {
				t.Fatalf("sector %d: %d blocks refused, want %d", at, refused, want)
			}
			own := *x.d
			y := &pair{p: lay(t, &own), d: &own}
			y.start(t)
			// The log mends a head that is none, or one commit behind.
			if broken := at < 5 && (at > 0 || i > 0); (y.v == nil) != broken {
				t.Fatalf("sector %d: broken %v", at, y.v == nil)
			}
			if y.v != nil && at >= 69 {
				if n := wantRightOrRefused(t, y.v, c.all); n != refused {
					t.Fatalf("sector %d: %d blocks refused behind a start, want %d", at, n, refused)
				}
			}
			x.set(t, at, kept[:])
		}
	}
}

// written is how many blocks stand in a sector.
func (c *tamperCase) written(at int) int {
	if at < 69 || (at-69)%24 >= 16 || c.all.blocks[(at-69)/24][(at-69)%24] == (api.Cell{}) {
		return 0
	}
	return 1
}

// P12.3: any sectors together, changed or set back, in states of which some are broken: a start answers ErrTamper, or reads are right or refused.
func TestManySectorsTamperedWith(t *testing.T) {
	t.Parallel()
	parts := [][2]int{{0, 1}, {1, 3}, {3, 5}, {5, 69}, {5, 6}, {69, 85}, {85, 93}, {93, 109}, {109, 117}, {0, 5}, {0, 69}, {1, 117}, {69, 93}, {0, 117}}
	for seed := range 3 {
		t.Run(strconv.Itoa(seed), func(t *testing.T) {
			t.Parallel()
			r := rand.New(rand.NewPCG(12, uint64(300+seed)))
			c := twoStates(t, r)
			broken := 0
			for range 50 {
				own := *c.d
				x := &pair{p: lay(t, &own), d: &own}
				was := c.held[r.IntN(len(c.held))]
				for range 1 + r.IntN(3) {
					part := parts[r.IntN(len(parts))]
					for at := part[0]; at < part[1]; at++ {
						x.set(t, at, was.reads[at][:])
					}
				}
				for range r.IntN(3) {
					x.spoil(t, r, r.IntN(117))
				}
				x.start(t)
				if x.v == nil {
					broken++
					continue
				}
				x.wantReads(t)
				wantRightOrRefused(t, x.v, c.all)
			}
			if broken == 0 || broken == 50 {
				t.Errorf("%d of 50 are broken", broken)
			}
		})
	}
}

// P12.3: all sectors of a tenant set back to what they held behind an elder commit: the counter tells.
func TestAllSetBack(t *testing.T) {
	t.Parallel()
	r := dice()
	x := started(t, formatted(0))
	var held []plainDisk
	for range 4 {
		held = append(held, *x.d)
		x.do(t, committing("a commit", linesOf(r, 0, 3), nil))
	}
	held = append(held, *formatted(0))
	for i := range held {
		d := held[i]
		d.counter = x.d.counter
		y := &pair{p: lay(t, &d), d: &d}
		y.start(t)
		if y.v != nil {
			t.Errorf("a start of what stood %d commits ago", len(held)-1-i)
		}
	}
}

// P12.3: heads, slots, logs, trees and blocks of another tenant's key.
func TestSectorsOfAnotherKey(t *testing.T) {
	t.Parallel()
	r := dice()
	x := started(t, formatted(0))
	lines := linesOf(r, 0, 1, 2)
	x.do(t, committing("a commit", lines, nil))
	all := texts{}.with(lines, nil)
	for _, key := range [][]byte{make([]byte, 32), append(bytes.Repeat([]byte{7}, 31), 8), append([]byte{6}, bytes.Repeat([]byte{7}, 31)...)} {
		p := lay(t, x.d)
		if v, err := vault.Open(p, counter, base, key); v != nil || err != api.ErrTamper {
			t.Errorf("with another key: %v", err)
		}
		wantDisk(t, p, x.d)
		other := &plainDisk{counter: x.d.counter - 1}
		other.do(plainFormat(key, other.counter, ramp(0, 128))...)
		for _, part := range [][2]int{{0, 1}, {1, 2}, {2, 3}, {5, 69}, {69, 93}, {0, 69}, {0, 117}} {
			own := *x.d
			y := &pair{p: lay(t, &own), d: &own}
			for at := part[0]; at < part[1]; at++ {
				y.set(t, at, other.reads[at][:])
			}
			y.start(t)
			if y.v != nil {
				wantRightOrRefused(t, y.v, all)
			}
			// The log mends a head that is none; a log of noughts refuses nothing.
			if mended := part[0] >= 5 || part[1] == 1; mended != (y.v != nil) {
				t.Errorf("sectors from %d to %d of another key: broken %v", part[0], part[1], y.v == nil)
			}
		}
	}
}

// crafted is a disk of which the counter, the head's count and the log's count are these (below 0: there is none), with a log of puts.
func crafted(counter, head, log int, puts func(head api.Head) []api.Put) *plainDisk {
	d := formatted(0)
	key := tenantKey()
	h, _ := plainTakeHead(plainDerived(key, "head"), d.reads[0])
	h.Count = head
	d.reads[0] = plainHead(plainDerived(key, "head"), h)
	if head < 0 {
		d.reads[0] = api.Cell{8}
	}
	if log >= 0 {
		h.Count = log
		copy(d.reads[5:69], plainLog(plainDerived(key, "log"), log, puts(h)))
	}
	d.sure, d.counter = d.reads, counter
	return d
}

// headAlone is the puts of a commit without changes.
func headAlone(h api.Head) []api.Put {
	return []api.Put{{At: 0, Cell: plainHead(plainDerived(tenantKey(), "head"), h)}}
}

// P12.1: the counter at, one and two below and above the head's and the log's counts, with logs as commits leave them, and with logs of no puts.
func TestCounts(t *testing.T) {
	t.Parallel()
	// With the head's count 5 all; with 4, or none, the log's that is 5: but no puts give no head.
	for want, puts := range map[int]func(api.Head) []api.Put{8: headAlone, 7: func(api.Head) []api.Put { return nil }} {
		good := 0
		for _, head := range []int{-1, 3, 4, 5, 6, 7} {
			for _, log := range []int{-1, 3, 4, 5, 6, 7} {
				d := crafted(5, head, log, puts)
				x := &pair{p: lay(t, d), d: d}
				x.start(t)
				if x.v != nil {
					good++
				}
			}
		}
		if good != want {
			t.Errorf("%d starts are good, want %d", good, want)
		}
	}
}

// P12.1: at counters of 0 and 1, where counts below 0 are near.
func TestLeastCounts(t *testing.T) {
	t.Parallel()
	for _, count := range []int{0, 1} {
		for head := -1; head < 3; head++ {
			for log := -1; log < 3; log++ {
				d := crafted(count, head, log, headAlone)
				x := &pair{p: lay(t, d), d: d}
				x.start(t)
				if x.v != nil {
					wantTexts(t, x.v, texts{})
				}
			}
		}
	}
}

// P12.1: a log with sectors that the tenant hasn't is none: nobody else's are written, whatever stands in it.
func TestLogsThatLeadOutside(t *testing.T) {
	t.Parallel()
	for _, at := range []int{117, 118, 119, 120, 65535, 256} {
		puts := func(h api.Head) []api.Put { return append(headAlone(h), api.Put{At: at, Cell: api.Cell{9}}) }
		for _, log := range []int{5, 6} {
			d := crafted(5, 5, log, puts)
			p := lay(t, d)
			v, err := vault.Open(p, counter, base, tenantKey())
			if v == nil || err != nil {
				t.Fatalf("a log that leads to sector %d: %v", at, err)
			}
			if h := v.Head(); h.Count != 7 {
				t.Errorf("a log that leads to sector %d: count %d", at, h.Count)
			}
			for i := range p.Size() {
				if c, _ := p.Read(i); (i < base || i >= base+117) && c != around(i) {
					t.Errorf("sector %d was written", i)
				}
			}
		}
		d := crafted(5, 4, 5, puts)
		x := lay(t, d)
		if v, err := vault.Open(x, counter, base, tenantKey()); v != nil || err != api.ErrTamper {
			t.Errorf("a log that leads to sector %d, which alone could mend the head: %v", at, err)
		}
	}
}

// P12.1: behind the log's puts head, slots and Rest must be good, whatever they were ahead.
func TestLogsThatLeaveNothingGood(t *testing.T) {
	t.Parallel()
	key := tenantKey()
	good := formatted(0)
	spoiled := []func(h api.Head) []api.Put{
		func(h api.Head) []api.Put { return []api.Put{{At: 0}} },
		func(h api.Head) []api.Put { return append(headAlone(h), api.Put{At: 1}) },
		func(h api.Head) []api.Put { return append(headAlone(h), api.Put{At: 2, Cell: good.reads[1]}) },
		func(h api.Head) []api.Put { return append(headAlone(h), api.Put{At: 4, Cell: api.Cell{1}}) },
		func(h api.Head) []api.Put { h.Rest[23] ^= 1; return headAlone(h) },
		func(h api.Head) []api.Put { h.Rest = [24]byte{}; return headAlone(h) },
		// A head that is far behind the counter is no vault's.
		func(h api.Head) []api.Put { h.Count = 2; return headAlone(h) },
		func(h api.Head) []api.Put {
			// Rest is right, but this is no slot.
			var aside [4]api.Cell
			copy(aside[:], good.reads[1:5])
			aside[1] = api.Cell{1}
			h.Rest = plainRest(aside)
			return append(headAlone(h), api.Put{At: 2, Cell: aside[1]})
		},
		func(h api.Head) []api.Put {
			// A slot of another tenant's.
			aside := [4]api.Cell{good.reads[1], plainSlot(plainDerived(make([]byte, 32), "wrap"), ramp(0, 64))}
			h.Rest = plainRest(aside)
			return append(headAlone(h), api.Put{At: 2, Cell: aside[1]})
		},
	}
	for i, puts := range spoiled {
		for _, log := range []int{5, 6} {
			p := lay(t, crafted(5, 5, log, puts))
			if v, err := vault.Open(p, counter, base, key); v != nil || err != api.ErrTamper {
				t.Errorf("log %d, count %d: %v", i, log, err)
			}
		}
	}
}

// P12.3: sectors that are set back while a vault runs, and blocks, also the ones beside them, that are committed behind it: the new root is over nothing that was set back. What is committed is read.
func TestCommitsOverTamperedTrees(t *testing.T) {
	t.Parallel()
	for seed := range 3 {
		t.Run(strconv.Itoa(seed), func(t *testing.T) {
			t.Parallel()
			r := rand.New(rand.NewPCG(12, uint64(400+seed)))
			x := started(t, formatted(0))
			var all texts
			for range 12 {
				unit := r.IntN(2)
				// All that the unit's sectors held: blocks that were never written, too.
				elder := x.d.reads
				for range 2 {
					lines := linesOf(r, unit, r.Perm(16)[:8+r.IntN(9)]...)
					commitAndTake(t, x, lines)
					all = all.with(lines, nil)
				}
				setBack(t, r, x, unit, elder)
				lines := linesOf(r, unit, r.Perm(16)[:1+r.IntN(2)]...)
				commitAndTake(t, x, lines)
				all = all.with(lines, nil)
				wantRightOrRefused(t, x.v, all)
				for _, l := range lines {
					if c, err := x.v.Read(l.Unit, l.Block); c != l.Cell || err != nil {
						t.Fatalf("what was just committed: %x, %v", c, err)
					}
				}
				if r.IntN(2) == 0 {
					startAndTake(t, x)
					wantRightOrRefused(t, x.v, all)
				}
				// All is well again behind a commit of all blocks.
				lines = linesOf(r, unit, r.Perm(16)...)
				commitAndTake(t, x, lines)
				all = all.with(lines, nil)
				wantTexts(t, x.v, all)
			}
		})
	}
}

// P12.3: a tree's sector that is changed or set back: a commit of a block that reads well, and whose leaf stands as it was, spoils no other one that does.
func TestCommitsSpareWhatReadsWell(t *testing.T) {
	t.Parallel()
	r := dice()
	c := twoStates(t, r)
	for i := range 8 {
		for _, elder := range []*plainDisk{nil, c.held[2]} {
			x := started(t, c.d)
			if elder == nil {
				x.spoil(t, r, treeOf(0)+i)
			} else {
				x.set(t, treeOf(0)+i, elder.reads[treeOf(0)+i][:])
			}
			all := c.all
			for _, block := range r.Perm(16) {
				var well []int
				for b := range 16 {
					if _, refused := x.m.read(x.d, 0, b); !refused {
						well = append(well, b)
					}
				}
				if !slices.Contains(well, block) || i == 4+block/4 {
					continue
				}
				lines := linesOf(r, 0, block)
				commitAndTake(t, x, lines)
				x.m.head = x.v.Head()
				all = all.with(lines, nil)
				for _, b := range well {
					if c, err := x.v.Read(0, b); c != all.blocks[0][b] || err != nil {
						t.Fatalf("tree's sector %d, block %d committed, block %d: %x, %v", i, block, b, c, err)
					}
				}
			}
		}
	}
}

// commitAndTake commits lines, and takes the disk as it is then.
func commitAndTake(t *testing.T, x *pair, lines []api.Line) {
	t.Helper()
	if err := x.v.Commit(lines, nil); err != nil {
		t.Fatal(err)
	}
	x.take(t)
}

// startAndTake starts, and takes the disk as it is then.
func startAndTake(t *testing.T, x *pair) {
	t.Helper()
	v, err := vault.Open(x.p, counter, base, tenantKey())
	if err != nil {
		t.Fatal(err)
	}
	x.v = v
	x.take(t)
}

// take makes the plain disk what the disk is, where all is flushed.
func (x *pair) take(t *testing.T) {
	t.Helper()
	for at := range 117 {
		c, err := x.p.Read(base + at)
		if err != nil {
			t.Fatal(err)
		}
		x.d.sure[at], x.d.reads[at] = c, c
	}
	n, err := x.p.Counter(counter)
	if err != nil {
		t.Fatal(err)
	}
	x.d.counter = n
}

// setBack sets some of a unit's blocks and sectors of its tree back.
func setBack(t *testing.T, r *rand.Rand, x *pair, unit int, elder [117]api.Cell) {
	t.Helper()
	kind := r.IntN(4)
	for at := 69 + 24*unit; at < 93+24*unit; at++ {
		// All of them; the tree alone; any.
		if kind == 0 || kind == 1 && at >= treeOf(unit) || r.IntN(2) == 0 {
			x.set(t, at, elder[at][:])
		}
	}
	for range r.IntN(2) {
		x.spoil(t, r, 69+24*unit+r.IntN(24))
	}
}

// P12.3: each block written, set back with the tree's sectors of its path, and another one committed: it is refused.
func TestSetBackUnderANewRoot(t *testing.T) {
	t.Parallel()
	r := dice()
	x := started(t, formatted(0))
	lines := linesOf(r, 0, 0, 1, 2, 3, 4, 5, 6, 7, 8, 9, 10, 11, 12, 13, 14, 15)
	x.do(t, committing("all", lines, nil))
	all := texts{}.with(lines, nil)
	for block := range 16 {
		elder := x.d.reads
		newer := linesOf(r, 0, block)
		commitAndTake(t, x, newer)
		all = all.with(newer, nil)
		for at := 69; at < 93; at++ {
			if at == 69+block || at >= 85 {
				x.set(t, at, elder[at][:])
			}
		}
		beside := linesOf(r, 0, block^(1<<r.IntN(4)))
		commitAndTake(t, x, beside)
		all = all.with(beside, nil)
		if c, err := x.v.Read(0, block); c != (api.Cell{}) || err != api.ErrTamper {
			t.Fatalf("block %d that was set back: %x, %v", block, c, err)
		}
		wantRightOrRefused(t, x.v, all)
		again := allLines(r)[:16]
		commitAndTake(t, x, again)
		all = all.with(again, nil)
		wantTexts(t, x.v, all)
	}
}

// P12.3: where blocks alone are tampered with, these are refused, and all others read well, whatever is committed; a block that is committed again reads well.
func TestBlocksTamperedWith(t *testing.T) {
	t.Parallel()
	r := dice()
	x := started(t, formatted(0))
	lines := allLines(r)
	x.do(t, committing("all", lines, nil))
	all := texts{}.with(lines, nil)
	for range 10 {
		unit, bad := r.IntN(2), r.Perm(16)[:3]
		for _, b := range bad {
			x.spoil(t, r, 69+24*unit+b)
		}
		more := linesOf(r, unit, bad[0], (bad[0]+1)%16)
		x.do(t, committing("a commit", more, nil))
		all = all.with(more, nil)
		want := 2
		if slices.Contains(bad[1:], more[1].Block) {
			want--
		}
		if n := wantRightOrRefused(t, x.v, all); n != want {
			t.Fatalf("%d blocks refused, want %d", n, want)
		}
		x.start(t)
		if n := wantRightOrRefused(t, x.v, all); n != want {
			t.Fatalf("%d blocks refused behind a start, want %d", n, want)
		}
		rest := linesOf(r, unit, bad[1:]...)
		x.do(t, committing("the rest", rest, nil))
		all = all.with(rest, nil)
		wantTexts(t, x.v, all)
	}
}

// P12.3: slots and notes that are set back while a vault runs aren't taken over by its next commits: the next start is broken, unless they were written again.
func TestAsideTamperedWithBehindAStart(t *testing.T) {
	t.Parallel()
	r := dice()
	for at := 1; at < 5; at++ {
		x := started(t, formatted(0))
		x.do(t, erasing("an erasure", 0, anyBytes(r, 64)), erasing("an erasure", 1, anyBytes(r, 64)))
		elder := x.d.reads[at]
		notes := []api.Put{{At: 0, Cell: anyCell(r)}, {At: 1, Cell: anyCell(r)}}
		x.do(t, committing("notes", nil, notes))
		x.do(t, erasing("an erasure", 0, anyBytes(r, 64)), erasing("an erasure", 1, anyBytes(r, 64)))
		kept := x.d.reads[at]
		x.set(t, at, elder[:])
		lines := linesOf(r, 0, 4)
		x.do(t, committing("a commit", lines, nil))
		wantTexts(t, x.v, texts{}.with(lines, notes))
		y := &pair{p: x.p, d: x.d}
		y.start(t)
		if y.v != nil {
			t.Errorf("sector %d was set back, and the start is good", at)
		}
		x.set(t, at, kept[:])
		x.start(t)
		wantTexts(t, x.v, texts{}.with(lines, notes))
	}
}

// P12.3: the whole log of a commit or an erasure that was cut ahead of its flush, and of which nothing was kept: set back behind the start that was answered, it never counts again, whatever was committed since.
func TestLogsOfCutsSetBack(t *testing.T) {
	t.Parallel()
	r := dice()
	for _, c := range crashCases(t, r) {
		x := started(t, c.from)
		steps := c.plain(x.m, x.d)
		flushed := slices.IndexFunc(steps, func(s step) bool { return s.kind == "flush" })
		cut := *x.d
		cut.do(steps[:flushed]...)
		for since := range 5 {
			x := started(t, cut.crash(nil))
			wantTexts(t, x.v, c.ahead)
			for range since {
				x.do(t, committing("nothing", nil, nil))
			}
			for at := 5; at < 69; at++ {
				x.set(t, at, cut.reads[at][:])
			}
			x.start(t)
			wantTexts(t, x.v, c.ahead)
		}
	}
}

// P12.2, P12.3: crashes and tampering and starts in any order: behind a good start notes and roots are one commit's, and readings are right or refused.
func TestAnyCrashesAndTampering(t *testing.T) {
	t.Parallel()
	for seed := range 4 {
		t.Run(strconv.Itoa(seed), func(t *testing.T) {
			t.Parallel()
			r := rand.New(rand.NewPCG(12, uint64(500+seed)))
			x := started(t, formatted(0))
			all := []texts{{}}
			held := [][117]api.Cell{x.d.reads}
			for range 24 {
				all = anyChange(t, r, x, all[0])
				held = append(held, x.d.reads)
				good := *x.d
				any := r.IntN(3) > 0
				if any {
					tamperAny(t, r, x, held)
				}
				v, err := vault.Open(x.p, counter, base, tenantKey())
				if err != nil && (!any || err != api.ErrTamper) {
					t.Fatal(err)
				}
				if v == nil {
					// As the disk was, the start is good.
					*x.d = good
					x.p = lay(t, x.d)
					if v, err = vault.Open(x.p, counter, base, tenantKey()); err != nil {
						t.Fatal(err)
					}
				}
				x.v = v
				x.take(t)
				all = []texts{oneOf(t, v, all)}
				mendAll(t, r, x, &all[0])
			}
		})
	}
}

// anyChange commits or erases, cut or not, and answers what may be there then.
func anyChange(t *testing.T, r *rand.Rand, x *pair, all texts) []texts {
	t.Helper()
	lines, notes := linesOf(r, r.IntN(2), r.Perm(16)[:r.IntN(4)]...), []api.Put{{At: r.IntN(2), Cell: anyCell(r)}}
	unit, fresh := r.IntN(2), anyBytes(r, 64)
	next := all.with(lines, notes)
	call := func() error { return x.v.Commit(lines, notes) }
	if r.IntN(4) == 0 {
		next = all.without(unit)
		call = func() error { return x.v.Erase(unit, fresh) }
	}
	if err := x.p.Arm(r.IntN(40)); err != nil {
		t.Fatal(err)
	}
	err := call()
	open := slices.Collect(x.p.Open())
	x.p.Crash(keeps(r, open)[r.IntN(4)]...)
	x.take(t)
	if err == nil {
		return []texts{next}
	}
	return []texts{all, next}
}

// tamperAny sets sectors back to what they held before, or changes them.
func tamperAny(t *testing.T, r *rand.Rand, x *pair, held [][117]api.Cell) {
	t.Helper()
	parts := [][2]int{{0, 1}, {1, 3}, {3, 5}, {5, 69}, {69, 93}, {93, 117}, {85, 93}, {109, 117}, {69, 117}}
	for range 1 + r.IntN(2) {
		was := held[r.IntN(len(held))]
		part := parts[r.IntN(len(parts))]
		for at := part[0]; at < part[1]; at++ {
			x.set(t, at, was[at][:])
		}
	}
	for range r.IntN(3) {
		x.spoil(t, r, r.IntN(117))
	}
}

// oneOf is that one of some texts of which a vault reads parts, and nothing else.
func oneOf(t *testing.T, v *vault.Vault, some []texts) texts {
	t.Helper()
	for _, all := range some {
		right := true
		for unit := range 2 {
			for block := range 16 {
				c, err := v.Read(unit, block)
				if err != nil && err != api.ErrTamper {
					t.Fatal(err)
				}
				right = right && (err != nil || c == all.blocks[unit][block])
			}
			c, err := v.Note(unit)
			if err != nil {
				t.Fatal(err)
			}
			right = right && c == all.notes[unit]
		}
		if right {
			return all
		}
	}
	t.Fatal("neither what was there ahead nor behind")
	return texts{}
}

// mendAll commits some block behind the tampering, and then all that are refused.
func mendAll(t *testing.T, r *rand.Rand, x *pair, all *texts) {
	t.Helper()
	lines := linesOf(r, r.IntN(2), r.IntN(16))
	commitAndTake(t, x, lines)
	*all = all.with(lines, nil)
	wantRightOrRefused(t, x.v, *all)
	lines = nil
	for unit := range 2 {
		for block := range 16 {
			if _, err := x.v.Read(unit, block); err == api.ErrTamper {
				lines = append(lines, line(r, unit, block))
			}
		}
	}
	if len(lines) > 0 {
		commitAndTake(t, x, lines)
		*all = all.with(lines, nil)
	}
}
