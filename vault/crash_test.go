package vault_test

import (
	"math/rand/v2"
	"slices"
	"strconv"
	"testing"

	"citadel/api"
	"citadel/platter"
	"citadel/vault"
)

// keeps are open sectors that a crash keeps: none, all, and some.
func keeps(r *rand.Rand, open []int) [][]int {
	var half, other []int
	for _, at := range open {
		if r.IntN(2) == 0 {
			half = append(half, at)
		} else {
			other = append(other, at)
		}
	}
	return [][]int{nil, open, half, other}
}

// run does what a function says on a disk whose power goes ahead of a step, and tells where the sectors written, flushed and kept, and the counter, aren't as the steps say. It answers what the disk is behind the crash.
func run(t *testing.T, p *platter.Platter, d plainDisk, steps []step, cut int, keep func(open []int) []int, call func() error) *plainDisk {
	t.Helper()
	if err := p.Arm(cut); err != nil {
		t.Fatal(err)
	}
	want := error(nil)
	if cut < len(steps) {
		want = api.ErrDown
	}
	if err := call(); err != want {
		t.Fatalf("cut at %d of %d: %v, want %v", cut, len(steps), err, want)
	}
	d.do(steps[:min(cut, len(steps))]...)
	kept := keep(d.openOnes())
	if got, want := slices.Collect(p.Open()), onDisk(d.openOnes()); !slices.Equal(got, want) {
		t.Fatalf("cut at %d: open: %v, want %v", cut, got, want)
	}
	p.Crash(onDisk(kept)...)
	crashed := d.crash(kept)
	wantDisk(t, p, crashed)
	return crashed
}

// crashCase is what is cut, with the disk that it begins from, and the texts ahead of it and behind it.
type crashCase struct {
	op
	from          *plainDisk
	ahead, behind texts
}

func crashCases(t *testing.T, r *rand.Rand) []crashCase {
	t.Helper()
	x := started(t, formatted(0))
	var all texts
	lines, notes := slices.Concat(linesOf(r, 0, 0, 1, 2, 9), linesOf(r, 1, 4, 15)), []api.Put{{At: 0, Cell: anyCell(r)}}
	x.do(t, committing("a first commit", lines, notes))
	all = all.with(lines, notes)
	from := *x.d
	one := linesOf(r, 0, 1)
	more, other := slices.Concat(linesOf(r, 0, 1, 3), linesOf(r, 1, 5)), []api.Put{{At: 0, Cell: anyCell(r)}, {At: 1, Cell: anyCell(r)}}
	return []crashCase{
		{committing("nothing", nil, nil), &from, all, all},
		{committing("a block", one, nil), &from, all, all.with(one, nil)},
		{committing("blocks and notes", more, other), &from, all, all.with(more, other)},
		{erasing("an erasure", 0, anyBytes(r, 64)), &from, all, all.without(0)},
	}
}

// cuts are the steps that a case is cut ahead of: all, but of the many like ones of the log of an erasure.
func cuts(many int) []int {
	var all []int
	for cut := range many + 1 {
		if cut < 28 || cut > many-4 || cut%9 == 0 {
			all = append(all, cut)
		}
	}
	return all
}

// wantEither tells where a start doesn't come to what was there ahead or behind: the latter, if it was answered.
func wantEither(t *testing.T, v *vault.Vault, c crashCase, answered bool) {
	t.Helper()
	got := readAll(t, v)
	if got != c.behind && (answered || got != c.ahead) {
		t.Fatalf("%s, answered %v: neither ahead nor behind", c.name, answered)
	}
}

// P12.2: a crash ahead of each step of a commit and of an erasure, with none, some and all open sectors kept: a start does what is said, and comes to all or nothing.
func TestCrashAtEachStep(t *testing.T) {
	t.Parallel()
	for i, c := range crashCases(t, dice()) {
		t.Run(c.name, func(t *testing.T) {
			t.Parallel()
			r := rand.New(rand.NewPCG(12, uint64(i)))
			x := started(t, c.from)
			steps := c.plain(x.m, x.d)
			for _, cut := range cuts(len(steps)) {
				x := started(t, c.from)
				ahead := *x.d
				kind := cut % 4
				crashed := run(t, x.p, ahead, steps, cut, func(open []int) []int { return keeps(r, open)[kind] }, func() error { return c.run(x.v) })
				x.d = crashed
				x.start(t)
				wantEither(t, x.v, c, cut >= len(steps))
				x.wantReads(t)
				// Another way in which the same steps may have come to an end.
				ahead.do(steps[:min(cut, len(steps))]...)
				other := keeps(r, ahead.openOnes())[(kind+1+r.IntN(3))%4]
				wantEither(t, started(t, ahead.crash(other)).v, c, cut >= len(steps))
			}
		})
	}
}

// P12.2: what was cut is told by the log alone: behind its flush it is there, whole, and ahead of it, where not all of it was kept, nothing of it.
func TestWhatIsCutIsAheadOrBehind(t *testing.T) {
	t.Parallel()
	for _, c := range crashCases(t, dice())[1:3] {
		x := started(t, c.from)
		steps := c.plain(x.m, x.d)
		flushed := slices.IndexFunc(steps, func(s step) bool { return s.kind == "flush" })
		for cut := range len(steps) + 1 {
			d := *started(t, c.from).d
			d.do(steps[:cut]...)
			want := c.ahead
			if cut > flushed {
				want = c.behind
			}
			wantTexts(t, started(t, d.crash(nil)).v, want)
		}
		d := *started(t, c.from).d
		d.do(steps[:flushed]...)
		wantTexts(t, started(t, d.crash(d.openOnes())).v, c.behind)
		for _, lost := range d.openOnes() {
			keep := slices.DeleteFunc(d.openOnes(), func(at int) bool { return at == lost })
			wantTexts(t, started(t, d.crash(keep)).v, c.ahead)
		}
	}
}

// P12.2: a crash within the start behind a crash, and within the start behind that.
func TestCrashWithinStarts(t *testing.T) {
	t.Parallel()
	for i, c := range crashCases(t, dice()) {
		t.Run(c.name, func(t *testing.T) {
			t.Parallel()
			r := rand.New(rand.NewPCG(12, uint64(100+i)))
			x := started(t, c.from)
			ahead := *x.d
			steps := c.plain(x.m, x.d)
			raised := slices.IndexFunc(steps, func(s step) bool { return s.kind == "raise" })
			// Within the log, ahead of its flush, behind it, behind the raise, within the puts, ahead of the last flush, and at the end.
			for _, cut := range []int{1, raised - 1, raised, raised + 1, raised + 2, len(steps) - 1, len(steps)} {
				d := ahead
				d.do(steps[:cut]...)
				all := keeps(r, d.openOnes())
				first := d.crash(all[r.IntN(len(all))])
				crashWithinStart(t, r, first, c, cut == len(steps))
			}
		})
	}
}

// crashWithinStart cuts the start of a disk at each second step, and then the next start at one.
func crashWithinStart(t *testing.T, r *rand.Rand, first *plainDisk, c crashCase, answered bool) {
	t.Helper()
	steps, m := plainStart(*first, tenantKey())
	if m == nil {
		t.Fatal("broken")
	}
	for cut := r.IntN(2); cut < len(steps); cut += 2 {
		p := lay(t, first)
		open := func() error { _, err := vault.Open(p, counter, base, tenantKey()); return err }
		any := func(open []int) []int { return keeps(r, open)[r.IntN(4)] }
		second := run(t, p, *first, steps, cut, any, open)
		if r.IntN(3) == 0 {
			again, m := plainStart(*second, tenantKey())
			if m == nil {
				t.Fatal("broken")
			}
			second = run(t, p, *second, again, r.IntN(len(again)), any, open)
		}
		x := &pair{p: p, d: second}
		x.start(t)
		if x.v == nil {
			t.Fatal("broken")
		}
		wantEither(t, x.v, c, answered)
	}
}

// P12.1, P12.2: a crash at each step of a Format, with none, some and all open sectors kept, over noughts, over a tenant, over any bytes: the start does what is said; what was there is there, or broken, and never parts of it; behind the raise the new tenant is there.
func TestCrashWithinFormat(t *testing.T) {
	t.Parallel()
	r := dice()
	x := started(t, formatted(0))
	lines, notes := linesOf(r, 0, 2, 3), []api.Put{{At: 1, Cell: anyCell(r)}}
	x.do(t, committing("a commit", lines, notes))
	junk := &plainDisk{counter: 9}
	for at := range junk.sure {
		junk.sure[at] = anyCell(r)
	}
	junk.reads = junk.sure
	all := texts{}.with(lines, notes)
	for name, from := range map[string]*plainDisk{"noughts": {}, "a tenant": x.d, "any bytes": junk} {
		fresh := anyBytes(r, 128)
		steps := plainFormat(tenantKey(), from.counter, fresh)
		for cut := range len(steps) + 1 {
			// Of the many like writes of noughts some; of what comes behind them all, with each way to keep what is open.
			if cut < 114 && cut%6 > 0 {
				continue
			}
			for kind := range 4 {
				if cut < 114 && kind != cut/6%4 {
					continue
				}
				p := lay(t, from)
				call := func() error { return vault.Format(p, counter, base, tenantKey(), fresh) }
				d := run(t, p, *from, steps, cut, func(open []int) []int { return keeps(r, open)[kind] }, call)
				x := &pair{p: p, d: d}
				x.start(t)
				switch {
				case cut == len(steps) && x.v == nil:
					t.Fatalf("over %s: answered, and broken", name)
				case x.v == nil:
				case name == "a tenant" && cut < len(steps):
					wantOldOrRefused(t, x.v, all)
				default:
					wantTexts(t, x.v, texts{})
				}
			}
		}
	}
}

// P12.2: a crash within the first start behind a Format.
func TestCrashWithinTheFirstStart(t *testing.T) {
	t.Parallel()
	r := dice()
	for range 2 {
		crashWithinStart(t, r, formatted(0), crashCase{op: op{name: "the first start"}}, true)
	}
}

// wantOldOrRefused tells where a vault reads anything but these texts.
func wantOldOrRefused(t *testing.T, v *vault.Vault, all texts) {
	t.Helper()
	for unit := range 2 {
		for block := range 16 {
			if c, err := v.Read(unit, block); err != api.ErrTamper && (err != nil || c != all.blocks[unit][block]) {
				t.Fatalf("Read(%d, %d): %x, %v", unit, block, c, err)
			}
		}
		if c, err := v.Note(unit); c != all.notes[unit] || err != nil {
			t.Fatalf("Note(%d): %x, %v", unit, c, err)
		}
	}
}

// P12.2: any calls, each cut at any step or not, each start cut any number of times.
func TestAnyCrashes(t *testing.T) {
	t.Parallel()
	for seed := range 4 {
		t.Run(strconv.Itoa(seed), func(t *testing.T) {
			t.Parallel()
			r := rand.New(rand.NewPCG(12, uint64(200+seed)))
			x := started(t, formatted(0))
			var all texts
			for range 40 {
				c := crashCase{ahead: all}
				unit, lines := r.IntN(2), linesOf(r, r.IntN(2), r.Perm(16)[:r.IntN(4)]...)
				notes := []api.Put{{At: r.IntN(2), Cell: anyCell(r)}}
				if r.IntN(4) == 0 {
					c.op, c.behind = erasing("an erasure", unit, anyBytes(r, 64)), all.without(unit)
				} else {
					c.op, c.behind = committing("a commit", lines, notes), all.with(lines, notes)
				}
				any := func(open []int) []int { return keeps(r, open)[r.IntN(4)] }
				steps := c.plain(x.m, x.d)
				cut := r.IntN(len(steps) + 10)
				x.d = run(t, x.p, *x.d, steps, cut, any, func() error { return c.run(x.v) })
				for r.IntN(3) == 0 {
					again, _ := plainStart(*x.d, tenantKey())
					x.d = run(t, x.p, *x.d, again, r.IntN(len(again)), any, func() error { _, err := vault.Open(x.p, counter, base, tenantKey()); return err })
				}
				x.start(t)
				wantEither(t, x.v, c, cut >= len(steps))
				all = readAll(t, x.v)
			}
		})
	}
}
