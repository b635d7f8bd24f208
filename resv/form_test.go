package resv_test

import (
	"math"
	"slices"
	"testing"

	"citadel/api"
	"citadel/resv"
)

// notInForm is reservations that aren't in form, in each way.
func notInForm() []api.Resv {
	return []api.Resv{
		{},
		{Holder: 0, Type: 1},
		{Holder: nobody, Type: 1},
		{Holder: nobody, Type: 6},
		{Holder: nobody, Type: -1},
		{Holder: nobody, Type: 7},
		{Holder: -2},
		{Holder: -2, Type: 1},
		{Holder: math.MinInt},
		{Holder: nobody, Gen: -1},
		{Holder: nobody, Gen: math.MinInt},
		{Holder: nobody, Stays: true, Gen: -1},
		{Holder: nobody, Regs: regs(-1, 5)},
		{Holder: nobody, Regs: regs(math.MinInt, 5)},
		{Holder: -1, Type: 1, Regs: regs(-1, 5)},
		{Holder: -2, Type: 1, Regs: regs(-2, 5)},
		{Holder: nobody, Regs: regs(1, 0)},
		{Holder: nobody, Regs: regs(1, -1)},
		{Holder: nobody, Regs: regs(1, 5, 2, 0)},
		{Holder: nobody, Regs: regs(1, 5, 2, math.MinInt)},
		{Holder: nobody, Regs: regs(1, 5, 1, 5)},
		{Holder: nobody, Regs: regs(1, 5, 1, 6)},
		{Holder: nobody, Regs: regs(2, 5, 1, 6)},
		{Holder: nobody, Regs: regs(1, 5, 3, 6, 2, 7)},
		{Holder: nobody, Regs: regs(1, 5, 2, 6, 3, 7, 3, 7)},
		{Holder: nobody, Regs: regs(1, 5, 2, 6, 3, 7, 4, 8, 5, 9)},
		{Holder: 5, Type: 1, Regs: regs(1, 5, 2, 6, 3, 7, 4, 8, 5, 9)},
		{Holder: nobody, Regs: make([]api.Reg, 1000)},
		{Holder: nobody, Type: 1, Regs: regs(1, 5)},
		{Holder: 1, Regs: regs(1, 5)},
		{Holder: 1, Type: 7, Regs: regs(1, 5)},
		{Holder: 1, Type: -1, Regs: regs(1, 5)},
		{Holder: 1, Type: math.MinInt, Regs: regs(1, 5)},
		{Holder: 1, Type: 257, Regs: regs(1, 5)},
		{Holder: 2, Type: 1, Regs: regs(1, 5)},
		{Holder: 0, Type: 5, Regs: regs(1, 5, 2, 5)},
		{Holder: 3, Type: 6, Regs: regs(1, 5, 2, 5)},
		{Holder: -2, Type: 1, Regs: regs(1, 5)},
		{Holder: math.MaxInt, Type: 1, Regs: regs(1, 5)},
		{Holder: 1, Type: 1, Regs: regs(1, 5), Gen: -1},
	}
}

// P14.1: reservations that aren't in form are refused, in each way, by Check, Do and Note.
func TestNotInForm(t *testing.T) {
	for _, r := range notInForm() {
		if err := resv.Check(r); err != api.ErrForm {
			t.Errorf("Check of %+v: %v", r, err)
		}
		if c, err := resv.Note(r); err != api.ErrForm || c != (api.Cell{}) {
			t.Errorf("Note of %+v: %v", r, err)
		}
		for op := 0; op <= 7; op++ {
			for _, who := range []int{1, 2, -1} {
				for _, key := range []int{0, 4, 5} { // also where it would be a conflict, or too many
					refuses(t, r, api.ResvOp{Op: op, Who: who, Key: key, New: 5, Type: 1}, api.ErrForm)
				}
			}
		}
	}
}

// P14.1: reservations in form aren't refused, at the edges.
func TestInForm(t *testing.T) {
	for _, r := range []api.Resv{
		{Holder: nobody},
		{Holder: nobody, Regs: []api.Reg{}},
		{Holder: nobody, Stays: true, Gen: math.MaxInt},
		{Holder: nobody, Regs: regs(0, 1)},
		{Holder: 0, Type: 1, Regs: regs(0, 1)},
		{Holder: 0, Type: 6, Regs: regs(0, math.MaxInt)},
		{Holder: math.MaxInt, Type: 3, Regs: regs(0, 1, math.MaxInt, 1)},
		{Holder: 4, Type: 5, Regs: regs(1, 1, 2, 1, 3, 1, 4, 1), Gen: 3},
		{Holder: nobody, Regs: regs(0, 1, 1, 1, 2, 1, 3, 1)},
	} {
		if err := resv.Check(r); err != nil {
			t.Errorf("Check of %+v: %v", r, err)
		}
		if _, err := resv.Note(r); err != nil {
			t.Errorf("Note of %+v: %v", r, err)
		}
	}
	for _, r := range universe([]int{0, 1, 2, 7}, []int{1, 2}, []int{0, 5}) {
		if err := resv.Check(r); err != nil {
			t.Errorf("Check of %+v: %v", r, err)
		}
	}
}

// P14.1: any small reservations are refused where they aren't in form, and there alone.
func TestAllForms(t *testing.T) {
	lists := [][]api.Reg{nil}
	for first := 0; first < len(lists) && len(lists[first]) < 3; first++ {
		for who := -1; who <= 2; who++ {
			for key := -1; key <= 1; key++ {
				lists = append(lists, append(slices.Clone(lists[first]), api.Reg{Who: who, Key: key}))
			}
		}
	}
	for _, list := range lists {
		for holder := -2; holder <= 3; holder++ {
			for kind := -1; kind <= 7; kind++ {
				r := api.Resv{Regs: list, Holder: holder, Type: kind}
				if (resv.Check(r) == nil) != formOfAll(r) {
					t.Fatalf("Check of %+v: %v", r, resv.Check(r))
				}
			}
		}
	}
}

// P14.1: operations that aren't in form are refused: an Op that there isn't, numbers below 0, and a Type that there isn't, where it matters.
func TestOpsNotInForm(t *testing.T) {
	for _, r := range []api.Resv{free(1, 5), held(1, 2, 1, 5, 2, 6), held(2, 6, 1, 5, 2, 6, 3, 7, 4, 8)} {
		for _, op := range []int{0, 7, -1, 8, 257, math.MinInt, math.MaxInt} {
			refuses(t, r, api.ResvOp{Op: op, Who: 1, Key: 5, New: 6, Type: 2}, api.ErrForm)
		}
		for op := 1; op <= 6; op++ {
			for _, below := range []int{-1, -5, math.MinInt} {
				refuses(t, r, api.ResvOp{Op: op, Who: below, Key: 5, New: 6, Type: 2}, api.ErrForm)
				refuses(t, r, api.ResvOp{Op: op, Who: 1, Key: below, New: 6, Type: 2}, api.ErrForm)
				refuses(t, r, api.ResvOp{Op: op, Who: 1, Key: 5, New: below, Type: 2}, api.ErrForm)
			}
			for _, kind := range []int{0, 7, -1, math.MinInt, math.MaxInt, 257} {
				o := api.ResvOp{Op: op, Who: 1, Key: 5, New: 6, Type: kind}
				switch op {
				case reserve, release, preempt:
					refuses(t, r, o, api.ErrForm)
				default:
					if _, err := resv.Do(r, o); err != nil {
						t.Errorf("%+v of %+v: %v", o, r, err)
					}
				}
			}
		}
	}
}

// P14.1: where several errors apply, the first one is answered: form, conflict, full; and of a release form comes behind conflict.
func TestFirstError(t *testing.T) {
	four := held(1, 2, 1, 5, 2, 6, 3, 7, 4, 8)
	refuses(t, four, api.ResvOp{Op: register, Who: 5, Key: 9, New: 1}, api.ErrConflict)
	refuses(t, four, api.ResvOp{Op: register, Who: 5, New: 1}, api.ErrFull)
	refuses(t, four, api.ResvOp{Op: register, Who: 5, Key: -1, New: 1}, api.ErrForm)
	refuses(t, four, api.ResvOp{Op: forget, Who: 5, Key: -1, New: 1}, api.ErrForm)
	refuses(t, four, api.ResvOp{Op: forget, Who: 5, Key: 9, New: 1}, api.ErrFull)
	refuses(t, four, api.ResvOp{Op: release, Who: 1, Key: 6, Type: 3}, api.ErrConflict)
	refuses(t, four, api.ResvOp{Op: release, Who: 1, Key: 5, Type: 3}, api.ErrForm)
	refuses(t, four, api.ResvOp{Op: release, Who: 9, Type: 7}, api.ErrForm)
	refuses(t, four, api.ResvOp{Op: reserve, Who: 9, Type: 0}, api.ErrForm)
	refuses(t, four, api.ResvOp{Op: preempt, Who: 9, Type: 0}, api.ErrForm)
}

// P14.1: what each of the six types allows a holder, one who is registered, and any other one.
func TestAllowed(t *testing.T) {
	types := []struct{ regRead, regWrite, otherRead, otherWrite bool }{
		1: {true, false, true, false},
		2: {false, false, false, false},
		3: {true, true, true, false},
		4: {true, true, false, false},
		5: {true, true, true, false}, // who is registered holds it
		6: {true, true, false, false},
	}
	for kind := 1; kind <= 6; kind++ {
		r := held(3, kind, 1, 5, 3, 6, 7, 6)
		want := types[kind]
		ask := func(who int, read, write bool) {
			t.Helper()
			if resv.Allowed(r, who, api.AccessRead) != read || resv.Allowed(r, who, api.AccessWrite) != write {
				t.Errorf("type %d, %d: want %v, %v", kind, who, read, write)
			}
		}
		ask(3, true, true)
		for _, who := range []int{1, 7} {
			ask(who, want.regRead, want.regWrite)
		}
		for _, who := range []int{0, 2, 4, 8, -1, -2, math.MinInt, math.MaxInt} {
			ask(who, want.otherRead, want.otherWrite)
		}
	}
	for _, r := range []api.Resv{free(), free(1, 5), free(0, 5, 2, 5, 3, 5, 4, 5)} {
		for _, who := range []int{0, 1, 5, -1, math.MinInt, math.MaxInt} {
			if !resv.Allowed(r, who, api.AccessRead) || !resv.Allowed(r, who, api.AccessWrite) {
				t.Errorf("without a holder %d isn't allowed all", who)
			}
		}
	}
}

// P14.1: an access that is neither reading nor writing is allowed nobody.
func TestOtherAccesses(t *testing.T) {
	for _, r := range []api.Resv{free(), free(1, 5), held(1, 1, 1, 5), held(1, 3, 1, 5, 2, 6), held(2, 5, 1, 5, 2, 6)} {
		for _, access := range []int{0, api.AccessReserve, 4, 5, -1, -2, 257, 258, math.MinInt, math.MaxInt} {
			for _, who := range []int{-1, 0, 1, 2, 3} {
				if resv.Allowed(r, who, access) {
					t.Errorf("access %d of %d is allowed by %+v", access, who, r)
				}
			}
		}
	}
}

// P14.1: Allowed and Holders of all reservations of a few whos and keys.
func TestEveryAllowed(t *testing.T) {
	for _, r := range universe([]int{0, 1, 2, 7}, []int{1}, []int{0}) {
		p := asPlain(r)
		var want []int
		for who := -2; who <= 9; who++ {
			for access := -1; access <= 4; access++ {
				if resv.Allowed(r, who, access) != p.allowed(who, access) {
					t.Fatalf("%+v: access %d of %d isn't %v", r, access, who, p.allowed(who, access))
				}
			}
			if p.holds(who) {
				want = append(want, who)
			}
		}
		if got := slices.Collect(resv.Holders(r)); !slices.Equal(got, want) {
			t.Fatalf("%+v: holders %v, want %v", r, got, want)
		}
	}
}

// P14.1: the holders, of each type: as often as they are asked for, and no more than are asked for.
func TestHolders(t *testing.T) {
	for kind := 1; kind <= 6; kind++ {
		want := []int{3}
		if kind >= 5 {
			want = []int{1, 3, 7, math.MaxInt}
		}
		holders := resv.Holders(held(3, kind, 1, 5, 3, 6, 7, 6, math.MaxInt, 1))
		for many := 1; many <= len(want); many++ {
			var got []int
			holders(func(who int) bool {
				got = append(got, who)
				return len(got) < many
			})
			if !slices.Equal(got, want[:many]) {
				t.Errorf("type %d, left behind %d: %v", kind, many, got)
			}
		}
		for range 2 {
			if got := slices.Collect(holders); !slices.Equal(got, want) {
				t.Errorf("type %d: %v", kind, got)
			}
		}
		for range holders {
			if got := slices.Collect(holders); !slices.Equal(got, want) {
				t.Errorf("type %d, within a run: %v", kind, got)
			}
		}
	}
	for _, r := range []api.Resv{free(), free(1, 5), free(1, 5, 2, 6, 3, 7, 4, 8)} {
		for who := range resv.Holders(r) {
			t.Errorf("%d holds %+v", who, r)
		}
	}
}

// P14.4: the holders are those of the moment when they were asked for.
func TestHoldersWrittenOver(t *testing.T) {
	for kind := 1; kind <= 6; kind++ {
		for at := 0; at <= 4; at++ { // ahead of the run, behind the first one ..
			r := held(3, kind, 1, 5, 3, 6, 7, 6)
			want := []int{3}
			if kind >= 5 {
				want = []int{1, 3, 7}
			}
			holders := resv.Holders(r)
			spoil := func() {
				for i := range r.Regs {
					r.Regs[i] = api.Reg{Who: 90 + i, Key: 9}
				}
				r.Holder, r.Type, r.Regs = 5, 7-kind, r.Regs[:1]
			}
			if at == 0 {
				spoil()
			}
			var got []int
			for who := range holders {
				got = append(got, who)
				if len(got) == at {
					spoil()
				}
			}
			if again := slices.Collect(holders); !slices.Equal(got, want) || !slices.Equal(again, want) {
				t.Errorf("type %d, at %d: %v, %v", kind, at, got, again)
			}
		}
	}
}

// P14.1: of reservations that aren't in form, too, the calls without errors answer, by the chapter's words.
func TestAnyArguments(t *testing.T) {
	for _, r := range notInForm() {
		for _, who := range []int{-2, -1, 0, 1, 2, math.MinInt, math.MaxInt} {
			for _, access := range []int{0, 3, 4, -1, math.MaxInt} {
				if resv.Allowed(r, who, access) {
					t.Errorf("access %d is allowed by %+v", access, r)
				}
			}
			if r.Holder == nobody && !(resv.Allowed(r, who, 1) && resv.Allowed(r, who, 2)) {
				t.Errorf("without a holder %d isn't allowed all by %+v", who, r)
			}
		}
		last := math.MinInt
		for who := range resv.Holders(r) {
			if r.Holder == nobody || who < last {
				t.Errorf("%d holds %+v", who, r)
			}
			last = who
		}
		if !resv.Same(r, r) {
			t.Errorf("%+v isn't the same", r)
		}
		want := api.Resv{Holder: nobody}
		if r.Stays {
			want = r
		}
		if got := resv.Start(r); !same(got, want) {
			t.Errorf("Start of %+v: %+v", r, got)
		}
	}
	unsorted := api.Resv{Regs: regs(5, 1, 2, 1, 5, 2, -3, 1), Holder: 5, Type: 6}
	if got := slices.Collect(resv.Holders(unsorted)); !slices.Equal(got, []int{-3, 2, 5}) {
		t.Errorf("holders of unsorted registrations: %v", got)
	}
	if !resv.Allowed(unsorted, 2, 2) || resv.Allowed(unsorted, 3, 1) {
		t.Error("unsorted registrations hold otherwise")
	}
	for _, kind := range []int{0, -1, 7, math.MinInt, math.MaxInt} { // of these types nobody is a holder
		r := api.Resv{Regs: regs(1, 5, 2, 6), Holder: 1, Type: kind}
		for who := range resv.Holders(r) {
			t.Errorf("type %d: %d holds it", kind, who)
		}
		for _, who := range []int{1, 2, 3} {
			if !resv.Allowed(r, who, api.AccessRead) || !resv.Allowed(r, who, api.AccessWrite) {
				t.Errorf("type %d: %d isn't allowed all", kind, who)
			}
		}
	}
	stranger := api.Resv{Regs: regs(1, 5), Holder: 4, Type: 2} // who holds it isn't registered
	if got := slices.Collect(resv.Holders(stranger)); !slices.Equal(got, []int{4}) || !resv.Allowed(stranger, 4, 2) || resv.Allowed(stranger, 1, 1) {
		t.Errorf("a Holder who isn't registered: %v", got)
	}
	many := api.Resv{Holder: 70000, Type: 5, Regs: make([]api.Reg, 1<<17)}
	for i := range many.Regs {
		many.Regs[i] = api.Reg{Who: len(many.Regs) - i, Key: 1}
	}
	if got := slices.Collect(resv.Holders(many)); len(got) != 1<<17 || !slices.IsSorted(got) || resv.Check(many) != api.ErrForm {
		t.Error("many registrations", len(got))
	}
}

// P14.1: behind a loss of power they are as they were, if they stay; else nobody's.
func TestStart(t *testing.T) {
	for _, r := range universe([]int{0, 1, 2, 7}, []int{1, 2}, []int{0, 5, math.MaxInt}) {
		want := api.Resv{Holder: nobody}
		if r.Stays {
			want = r
		}
		if got := resv.Start(r); !same(got, want) {
			t.Fatalf("Start of %+v: %+v", r, got)
		}
	}
}

// P14.1: reservations are the same field by field, and registration by registration.
func TestSame(t *testing.T) {
	r := api.Resv{Regs: regs(1, 5, 2, 6), Holder: 1, Type: 3, Stays: true, Gen: 7}
	others := []api.Resv{
		{Regs: regs(1, 5), Holder: 1, Type: 3, Stays: true, Gen: 7},
		{Regs: regs(1, 5, 2, 6, 3, 7), Holder: 1, Type: 3, Stays: true, Gen: 7},
		{Regs: regs(1, 5, 2, 7), Holder: 1, Type: 3, Stays: true, Gen: 7},
		{Regs: regs(1, 5, 3, 6), Holder: 1, Type: 3, Stays: true, Gen: 7},
		{Regs: regs(0, 5, 2, 6), Holder: 1, Type: 3, Stays: true, Gen: 7},
		{Regs: regs(1, 4, 2, 6), Holder: 1, Type: 3, Stays: true, Gen: 7},
		{Regs: regs(2, 6, 1, 5), Holder: 1, Type: 3, Stays: true, Gen: 7},
		{Holder: 1, Type: 3, Stays: true, Gen: 7},
		{Regs: regs(1, 5, 2, 6), Holder: 2, Type: 3, Stays: true, Gen: 7},
		{Regs: regs(1, 5, 2, 6), Holder: nobody, Type: 3, Stays: true, Gen: 7},
		{Regs: regs(1, 5, 2, 6), Holder: 1, Type: 4, Stays: true, Gen: 7},
		{Regs: regs(1, 5, 2, 6), Holder: 1, Type: 3, Gen: 7},
		{Regs: regs(1, 5, 2, 6), Holder: 1, Type: 3, Stays: true, Gen: 8},
		{Regs: regs(1, 5, 2, 6), Holder: 1, Type: 3, Stays: true, Gen: math.MinInt},
	}
	copied := r
	copied.Regs = slices.Clone(r.Regs)
	if !resv.Same(r, copied) || !resv.Same(copied, r) {
		t.Error("a copy isn't the same")
	}
	for _, other := range others {
		if resv.Same(r, other) || resv.Same(other, r) || !resv.Same(other, other) {
			t.Errorf("%+v", other)
		}
	}
	if !resv.Same(api.Resv{}, api.Resv{Regs: []api.Reg{}}) || !resv.Same(api.Resv{Regs: make([]api.Reg, 0, 3)}, api.Resv{}) {
		t.Error("no registrations are told apart")
	}
	if resv.Same(api.Resv{}, api.Resv{Holder: nobody}) || resv.Same(api.Resv{}, api.Resv{Regs: make([]api.Reg, 1)}) {
		t.Error("the zero reservations")
	}
}
