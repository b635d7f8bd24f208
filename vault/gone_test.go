package vault_test

import (
	"bytes"
	"math/rand/v2"
	"slices"
	"strconv"
	"testing"

	"citadel/api"
	"citadel/vault"
)

// wantGone tells where keys that were wrapped stand on the disk, whether it crashes or not, or where the log isn't noughts.
func wantGone(t *testing.T, x *pair, old []byte) {
	t.Helper()
	wrap := plainDerived(tenantKey(), "wrap")
	wrapped := plainWrapped(wrap, old)
	for at := range x.p.Size() {
		c, err := x.p.Read(at)
		if err != nil {
			t.Fatal(err)
		}
		if bytes.Contains(c[:], wrapped[:8]) || bytes.Contains(c[:], wrapped[8:16]) {
			t.Fatalf("the old keys stand in sector %d", at-base)
		}
		inLog := at-base >= 5 && at-base < 69
		if inLog && c != (api.Cell{}) {
			t.Fatalf("sector %d of the log: %x", at-base, c)
		}
	}
	for unit := range 2 {
		c, err := x.p.Read(base + 1 + unit)
		if err != nil {
			t.Fatal(err)
		}
		if k, ok := vault.TakeSlot(wrap, c); !ok || k == keysOf(t, old) {
			t.Fatalf("slot %d: %v, %x", unit, ok, k)
		}
	}
	if open := slices.Collect(x.p.Open()); len(open) > 0 {
		t.Fatalf("open: %v", open)
	}
}

// P12.4: behind an erasure the old keys stand nowhere, and the unit's blocks read noughts, now and behind starts; the other unit's don't.
func TestErasedKeysAreGone(t *testing.T) {
	t.Parallel()
	r := dice()
	for unit := range 2 {
		x := started(t, formatted(0))
		fresh := ramp(64*unit, 64)
		lines := allLines(r)
		all := texts{}
		for range 4 {
			x.do(t, committing("all", lines, nil))
			all = all.with(lines, nil).without(unit)
			old := fresh
			fresh = anyBytes(r, 64)
			x.do(t, erasing("an erasure", unit, fresh))
			wantGone(t, x, old)
			wantTexts(t, x.v, all)
			x.p.Crash()
			x.start(t)
			wantTexts(t, x.v, all)
		}
	}
}

// P12.4: also where earlier erasures, of either unit, and starts were cut, so that the log has other erasures' slots: whatever keys a unit had are gone, once an erasure of it was answered.
func TestErasedKeysAreGoneBehindCuts(t *testing.T) {
	t.Parallel()
	for seed := range 3 {
		t.Run(strconv.Itoa(seed), func(t *testing.T) {
			t.Parallel()
			r := rand.New(rand.NewPCG(12, uint64(600+seed)))
			x := started(t, formatted(0))
			had := [2][][]byte{{ramp(0, 64)}, {ramp(64, 64)}}
			for range 20 {
				unit, fresh := r.IntN(2), anyBytes(r, 64)
				had[unit] = append(had[unit], fresh)
				o := erasing("an erasure", unit, fresh)
				steps := o.plain(x.m, x.d)
				cut := r.IntN(2 * len(steps))
				x.d = run(t, x.p, *x.d, steps, cut, func(open []int) []int { return keeps(r, open)[r.IntN(4)] }, func() error { return o.run(x.v) })
				if cut >= len(steps) {
					for _, old := range had[unit][:len(had[unit])-1] {
						wantGone(t, x, old)
					}
				}
				x.start(t)
				lines := linesOf(r, unit, r.IntN(16))
				x.do(t, committing("a commit", lines, nil))
			}
		})
	}
}

// P12.3, P12.4: a unit's sectors that are set back behind its erasure are refused, and its elder slot with them.
func TestErasedUnitSetBack(t *testing.T) {
	t.Parallel()
	r := dice()
	for _, parts := range [][]int{{93, 117}, {93, 109}, {109, 117}, {2, 3, 93, 117}, {2, 3}, {5, 69, 93, 117}, {0, 1, 2, 3, 93, 117}, {0, 117}} {
		x := started(t, formatted(0))
		x.do(t, committing("all", allLines(r)[16:], nil))
		elder := x.d.reads
		x.do(t, erasing("an erasure", 1, anyBytes(r, 64)))
		for i := 0; i < len(parts); i += 2 {
			for at := parts[i]; at < parts[i+1]; at++ {
				x.set(t, at, elder[at][:])
			}
		}
		wantRightOrRefused(t, x.v, texts{})
		x.start(t)
		if good := parts[0] >= 5; (x.v != nil) != good {
			t.Errorf("%v set back: broken %v", parts, x.v == nil)
		}
		if x.v != nil {
			wantRightOrRefused(t, x.v, texts{})
			// What was set back isn't taken over either.
			commitAndTake(t, x, []api.Line{{Unit: 1, Block: 3, Cell: api.Cell{1}}})
			wantRightOrRefused(t, x.v, texts{}.with([]api.Line{{Unit: 1, Block: 3, Cell: api.Cell{1}}}, nil))
		}
	}
}
