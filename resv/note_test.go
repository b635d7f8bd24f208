package resv_test

import (
	"math"
	"math/rand/v2"
	"slices"
	"testing"

	"citadel/api"
	"citadel/resv"
)

// takes asks whether Take answers as the plain one does; a sector that is taken is the one that Note makes.
func takes(t *testing.T, c api.Cell) {
	t.Helper()
	got, err := resv.Take(c)
	want, ok := plainTake(c)
	if !ok {
		if err != api.ErrForm || !same(got, api.Resv{}) {
			t.Fatalf("Take of % x: %+v, %v", c, got, err)
		}
		return
	}
	if err != nil || !same(got, want) {
		t.Fatalf("Take of % x: %+v, %v; want %+v", c, got, err, want)
	}
	if again, err := resv.Note(got); err != nil || again != c {
		t.Fatalf("Note of %+v: % x, %v; want % x", got, again, err, c)
	}
}

// noted is the sector of reservations that must be in form.
func noted(t *testing.T, r api.Resv) api.Cell {
	t.Helper()
	c, err := resv.Note(r)
	if err != nil {
		t.Fatalf("Note of %+v: %v", r, err)
	}
	return c
}

// P14.1: the bytes of a note, one by one.
func TestNoteBytes(t *testing.T) {
	r := api.Resv{Regs: regs(1, 0x0506, 0x0102030405060708, 9), Holder: 1, Type: 6, Stays: true, Gen: 0x1122334455667788}
	want := api.Cell{
		0x11, 0x22, 0x33, 0x44, 0x55, 0x66, 0x77, 0x88,
		1, 6, 2,
		0, 0, 0, 0, 0, 0, 0, 2,
		0, 0, 0, 0, 0, 0, 0, 1,
		0, 0, 0, 0, 0, 0, 5, 6,
		1, 2, 3, 4, 5, 6, 7, 8,
		0, 0, 0, 0, 0, 0, 0, 9,
	}
	if c := noted(t, r); c != want {
		t.Errorf("% x", c)
	}
	if c := noted(t, api.Resv{Holder: nobody}); c != (api.Cell{}) {
		t.Errorf("% x", c)
	}
	if c := noted(t, api.Resv{Holder: nobody, Stays: true, Gen: 3}); c != (api.Cell{7: 3, 8: 1}) {
		t.Errorf("% x", c)
	}
	if c := noted(t, api.Resv{Regs: regs(0, 7), Holder: 0, Type: 1}); c != (api.Cell{9: 1, 10: 1, 18: 1, 34: 7}) {
		t.Errorf("% x", c)
	}
	// The Holder plus 1 wraps around.
	if c := noted(t, api.Resv{Regs: regs(math.MaxInt, 1), Holder: math.MaxInt, Type: 2}); c != (api.Cell{
		9: 2, 10: 1, 11: 0x80, 19: 0x7f, 20: 0xff, 21: 0xff, 22: 0xff, 23: 0xff, 24: 0xff, 25: 0xff, 26: 0xff, 34: 1,
	}) {
		t.Errorf("% x", c)
	}
}

// P14.4: Take of Note is the reservations, of any in form.
func TestNoteAndTake(t *testing.T) {
	all := universe([]int{0, 1, 1 << 40, math.MaxInt}, []int{1, math.MaxInt}, []int{0, 1, 300, math.MaxInt})
	for _, r := range all {
		c := noted(t, r)
		if c != plainNote(r) {
			t.Fatalf("Note of %+v: % x", r, c)
		}
		back, err := resv.Take(c)
		if err != nil || !same(back, r) || !resv.Same(back, r) {
			t.Fatalf("Take of Note of %+v: %+v, %v", r, back, err)
		}
	}
}

// P14.1: noughts are those of no registration.
func TestTakeNoughts(t *testing.T) {
	if r, err := resv.Take(api.Cell{}); err != nil || !same(r, api.Resv{Holder: nobody}) {
		t.Error(r, err)
	}
}

// P14.1: sectors with another byte in each place are others', or none's.
func TestTakeOtherBytes(t *testing.T) {
	for _, r := range []api.Resv{
		{Holder: nobody},
		{Holder: nobody, Stays: true, Gen: 255},
		{Regs: regs(1, 5), Holder: 1, Type: 1},
		{Regs: regs(0, 1, 1, 1), Holder: 0, Type: 5, Gen: 1},
		{Regs: regs(1, 5, 2, 6, 3, 7), Holder: nobody, Gen: 1},
		{Regs: regs(1, 5, 2, 6, 3, 7, 4, 8), Holder: 4, Type: 6, Stays: true, Gen: math.MaxInt},
		{Regs: regs(0, 1, 256, 1, 1<<62, 256, math.MaxInt, math.MaxInt), Holder: math.MaxInt, Type: 3},
	} {
		c := noted(t, r)
		for at := range c {
			other := c
			for range 255 {
				other[at]++
				takes(t, other)
				if got, err := resv.Take(other); err == nil && same(got, r) {
					t.Fatalf("byte %d of the sector of %+v doesn't matter", at, r)
				}
			}
		}
	}
}

// P14.1: bytes behind the registrations are none's, wherever they stand.
func TestTakeBehind(t *testing.T) {
	for many := 0; many <= 4; many++ {
		r := free([]int{1, 5, 2, 6, 3, 7, 4, 8}[:2*many]...)
		c := noted(t, r)
		for at := 19 + 16*many; at < len(c); at++ {
			for _, b := range []byte{1, 0x80, 0xff} {
				other := c
				other[at] = b
				if got, err := resv.Take(other); err != api.ErrForm || !same(got, api.Resv{}) {
					t.Errorf("%d registrations, byte %d: %+v, %v", many, at, got, err)
				}
			}
		}
	}
}

// P14.1: numbers that no reservations in form have are refused.
func TestTakeRefuses(t *testing.T) {
	minus := uint64(math.MaxUint64)
	least := uint64(1) << 63
	good := cellOf(3, 1, 2, 1, 2, 1, 5)
	if r, err := resv.Take(good); err != nil || !same(r, api.Resv{Regs: regs(1, 5), Holder: 1, Type: 2, Stays: true, Gen: 3}) {
		t.Error(r, err)
	}
	bad := []api.Cell{
		cellOf(minus, 1, 2, 1, 2, 1, 5),
		cellOf(least, 1, 2, 1, 2, 1, 5),
		cellOf(3, 2, 2, 1, 2, 1, 5),
		cellOf(3, 255, 2, 1, 2, 1, 5),
		cellOf(3, 1, 0, 1, 2, 1, 5),
		cellOf(3, 1, 7, 1, 2, 1, 5),
		cellOf(3, 1, 255, 1, 2, 1, 5),
		cellOf(3, 1, 2, 0, 2),
		cellOf(3, 1, 2, 0, 2, 1, 5),
		cellOf(3, 1, 2, 2, 2, 1, 5),
		cellOf(3, 1, 2, 5, 2, 1, 5, 2, 5, 3, 5, 4, 5, 5, 5),
		cellOf(3, 1, 2, 6, 2, 1, 5, 2, 5, 3, 5, 4, 5, 5, 5, 6, 5),
		cellOf(3, 1, 2, 7, 2, 1, 5),
		cellOf(3, 1, 2, 255, 2, 1, 5),
		cellOf(3, 1, 2, 1, 0, 1, 5),
		cellOf(3, 1, 2, 1, 1, 1, 5),
		cellOf(3, 1, 2, 1, 3, 1, 5),
		cellOf(3, 1, 2, 1, minus, 1, 5),
		cellOf(3, 1, 2, 1, least, 1, 5),
		cellOf(3, 1, 2, 1, 2, 1, 0),
		cellOf(3, 1, 2, 1, 2, 1, minus),
		cellOf(3, 1, 2, 1, 2, 1, least),
		cellOf(3, 1, 2, 1, 2, 2, 5),
		cellOf(3, 1, 2, 1, minus, minus-1, 5),
		cellOf(3, 1, 0, 1, 0, minus, 5),
		cellOf(3, 1, 2, 2, 2, 1, 5, 1, 5),
		cellOf(3, 1, 2, 2, 2, 1, 5, 0, 5),
		cellOf(3, 1, 2, 1, 2, 1, 5, 2, 6),
		cellOf(0, 0, 1, 0, 0),
		cellOf(0, 0, 0, 0, 1),
		cellOf(0, 0, 0, 0, minus),
	}
	for _, c := range bad {
		if r, err := resv.Take(c); err != api.ErrForm || !same(r, api.Resv{}) {
			t.Errorf("Take of % x: %+v, %v", c, r, err)
		}
	}
}

// P14.1, P14.4: sectors of any numbers are taken as the chapter says.
func TestTakeAny(t *testing.T) {
	r := rand.New(rand.NewPCG(14, 2))
	of := func(numbers ...uint64) uint64 { return numbers[r.IntN(len(numbers))] }
	wide := func() uint64 { return of(0, 1, 2, 3, 1, 2, 3, 4, math.MaxInt, 1<<63, math.MaxUint64) }
	good := 0
	for range 60000 {
		many := of(0, 1, 2, 3, 4, 1, 2, 5, 255)
		var pairs []uint64
		for i := range many % 6 {
			who := i + 1
			if r.IntN(4) == 0 {
				who = wide()
			}
			key := uint64(5)
			if r.IntN(4) == 0 {
				key = wide()
			}
			pairs = append(pairs, who, key)
		}
		if r.IntN(10) == 0 {
			pairs = append(pairs, wide())
		}
		holder, kind := wide(), of(0, 1, 2, 3, 4, 5, 6, 1, 5, 7, 255)
		if r.IntN(2) == 0 {
			holder, kind = 0, 0
		}
		c := cellOf(of(0, 1, 3, math.MaxInt, 0, 1<<63), byte(of(0, 1, 0, 1, 2)), byte(kind), byte(many), holder, pairs...)
		takes(t, c)
		if _, ok := plainTake(c); ok {
			good++
		}
	}
	if good < 2000 {
		t.Errorf("no more than %d sectors were one's", good)
	}
}

// roomy is the reservations with spare room behind the registrations, and all of the room.
func roomy(r api.Resv) (api.Resv, []api.Reg) {
	all := make([]api.Reg, 8)
	for i := range all {
		all[i] = api.Reg{Who: 70 + i, Key: 70 + i}
	}
	n := copy(all, r.Regs)
	r.Regs = all[:n]
	return r, all
}

// ops is operations of which some change much, some little, and some are refused.
func ops() []api.ResvOp {
	return []api.ResvOp{
		{Op: register, Who: 0, New: 9},
		{Op: register, Who: 2, New: 9},
		{Op: register, Who: 9, New: 9},
		{Op: register, Who: 1, Key: 4, New: 4},
		{Op: register, Who: 1, Key: 4, New: 8},
		{Op: register, Who: 1, Key: 4},
		{Op: register, Who: 2},
		{Op: forget, Who: 5, New: 9},
		{Op: forget, Who: 3},
		{Op: reserve, Who: 3, Key: 5, Type: 5},
		{Op: reserve, Who: 1, Key: 4, Type: 5},
		{Op: release, Who: 1, Key: 4, Type: 5},
		{Op: release, Who: 3, Key: 5, Type: 1},
		{Op: clearAll, Who: 1, Key: 4},
		{Op: preempt, Who: 1, Key: 4, New: 5, Type: 6},
		{Op: preempt, Who: 3, Key: 5, New: 4, Type: 6},
		{Op: preempt, Who: 3, Key: 5, New: 5, Type: 6},
		{Op: preempt, Who: 3, Key: 5, New: 77, Type: 6},
	}
}

// spoil writes over the registrations, and all room behind them.
func spoil(list []api.Reg) {
	list = list[:cap(list)]
	for i := range list {
		list[i] = api.Reg{Who: 50 + i, Key: 60}
	}
}

// P14.3, P14.4: what is handed in isn't changed, nor the room behind it, and what is answered shares no memory with it.
func TestNewMemory(t *testing.T) {
	for _, r := range []api.Resv{free(1, 4, 3, 5), held(3, 5, 1, 4, 3, 5), held(1, 1, 1, 4, 3, 5), held(3, 6, 1, 4, 3, 5, 6, 7, 8, 7)} {
		for _, o := range ops() {
			want, err := resv.Do(r, o)
			wanted := slices.Clone(want.Regs)
			given, room := roomy(r)
			ahead := slices.Clone(room)
			got, err2 := resv.Do(given, o)
			other, _ := resv.Do(given, o)
			if (err == nil) != (err2 == nil) || !same(got, want) || !slices.Equal(room, ahead) {
				t.Fatalf("%+v of %+v: %+v, %v, room %v", o, given, got, err2, room)
			}
			spoil(got.Regs)
			if !slices.Equal(room, ahead) || !slices.Equal(other.Regs, wanted) {
				t.Fatalf("%+v of %+v: the answer shares memory", o, r)
			}
			spoil(room)
			if !slices.Equal(other.Regs, wanted) {
				t.Fatalf("%+v of %+v: what is handed in is kept", o, r)
			}
		}
	}
}

// P14.4: the answers of Start and Take are new memory.
func TestNewMemoryOfOthers(t *testing.T) {
	r := held(3, 5, 1, 4, 3, 5)
	r.Stays = true
	given, room := roomy(r)
	ahead := slices.Clone(room)
	got, other := resv.Start(given), resv.Start(given)
	spoil(got.Regs)
	if !slices.Equal(room, ahead) || !same(other, r) {
		t.Error("Start's answer shares memory")
	}
	spoil(room)
	if !same(other, r) {
		t.Error("Start keeps what is handed in")
	}
	c := noted(t, r)
	kept := c
	one, _ := resv.Take(c)
	two, _ := resv.Take(c)
	spoil(one.Regs)
	for i := range c {
		c[i] = 0xee
	}
	if !same(two, r) {
		t.Error("Take's answer shares memory")
	}
	if again, err := resv.Take(kept); err != nil || !same(again, r) {
		t.Error("Take keeps memory", again, err)
	}
	given, room = roomy(r)
	ahead = slices.Clone(room)
	resv.Check(given)
	resv.Note(given)
	resv.Allowed(given, 1, 1)
	resv.Same(given, r)
	for range resv.Holders(given) {
	}
	if !slices.Equal(room, ahead) {
		t.Error("what is handed in is changed", room)
	}
	unsorted, room := roomy(api.Resv{Regs: regs(5, 1, 2, 1), Holder: 5, Type: 6})
	ahead = slices.Clone(room)
	for range resv.Holders(unsorted) {
	}
	if !slices.Equal(room, ahead) {
		t.Error("Holders changes what is handed in", room)
	}
}
