package resv_test

import (
	"math"
	"math/rand/v2"
	"slices"
	"testing"

	"citadel/api"
	"citadel/resv"
)

// Short names for what the tables below say often.
const (
	register = api.OpRegister
	reserve  = api.OpReserve
	release  = api.OpRelease
	clearAll = api.OpClear
	preempt  = api.OpPreempt
	forget   = api.OpForget
	nobody   = api.NoHolder
)

// regs is registrations: a Who and a Key by turns.
func regs(pairs ...int) []api.Reg {
	var out []api.Reg
	for i := 0; i < len(pairs); i += 2 {
		out = append(out, api.Reg{Who: pairs[i], Key: pairs[i+1]})
	}
	return out
}

// held is reservations that one holds by this type.
func held(holder, kind int, pairs ...int) api.Resv {
	return api.Resv{Regs: regs(pairs...), Holder: holder, Type: kind, Gen: 9}
}

// free is reservations that nobody holds.
func free(pairs ...int) api.Resv { return held(nobody, 0, pairs...) }

// counted is the reservations with Gen 1 more.
func counted(r api.Resv) api.Resv {
	r.Gen++
	return r
}

// same is whether reservations are the same, without a call of the program.
func same(a, b api.Resv) bool {
	return slices.Equal(a.Regs, b.Regs) && a.Holder == b.Holder && a.Type == b.Type && a.Stays == b.Stays && a.Gen == b.Gen
}

// does asks for reservations behind an operation.
func does(t *testing.T, r api.Resv, o api.ResvOp, want api.Resv) {
	t.Helper()
	if got, err := resv.Do(r, o); err != nil || !same(got, want) {
		t.Errorf("%+v of %+v: %+v, %v; want %+v", o, r, got, err, want)
	}
}

// refuses asks for an error, beside which the reservations are nobody's.
func refuses(t *testing.T, r api.Resv, o api.ResvOp, want error) {
	t.Helper()
	if got, err := resv.Do(r, o); err != want || !same(got, api.Resv{Holder: nobody}) {
		t.Errorf("%+v of %+v: %+v, %v; want %v", o, r, got, err, want)
	}
}

// universe is all reservations in form of these whos, keys and Gens, of up to four registrations.
func universe(whos, keys, gens []int) []api.Resv {
	lists := [][]api.Reg{nil}
	for _, who := range whos {
		for _, list := range lists {
			for _, key := range keys {
				lists = append(lists, append(slices.Clone(list), api.Reg{Who: who, Key: key}))
			}
		}
	}
	var all []api.Resv
	for _, list := range lists {
		if len(list) > 4 {
			continue
		}
		for _, gen := range gens {
			for _, stays := range []bool{false, true} {
				all = append(all, api.Resv{Regs: list, Holder: nobody, Stays: stays, Gen: gen})
				for _, reg := range list {
					for kind := 1; kind <= 6; kind++ {
						all = append(all, api.Resv{Regs: list, Holder: reg.Who, Type: kind, Stays: stays, Gen: gen})
					}
				}
			}
		}
	}
	return all
}

// each is all operations of these whos, keys and types.
func each(whos, keys, kinds []int, use func(api.ResvOp)) {
	for op := 1; op <= 6; op++ {
		for _, who := range whos {
			for _, key := range keys {
				for _, other := range keys {
					for _, kind := range kinds {
						use(api.ResvOp{Op: op, Who: who, Key: key, New: other, Type: kind, Stays: (who+key+other+kind)%2 == 0})
					}
				}
			}
		}
	}
}

// agrees is whether an operation answers as the plain reservations do.
func agrees(r api.Resv, o api.ResvOp) bool {
	got, err := resv.Do(r, o)
	want, wanted := asPlain(r).do(o)
	if wanted != nil {
		return err != nil && err == wanted && same(got, api.Resv{Holder: nobody})
	}
	return err == nil && same(got, want.resv())
}

// P14.1: the chapter's example, step by step.
func TestExample(t *testing.T) {
	r := api.Resv{Holder: nobody}
	steps := []struct {
		o    api.ResvOp
		want api.Resv
	}{
		{api.ResvOp{Op: register, Who: 1, New: 5}, api.Resv{Regs: regs(1, 5), Holder: nobody, Gen: 1}},
		{api.ResvOp{Op: reserve, Who: 1, Key: 5, Type: 1}, api.Resv{Regs: regs(1, 5), Holder: 1, Type: 1, Gen: 1}},
		{api.ResvOp{Op: register, Who: 2, New: 6}, api.Resv{Regs: regs(1, 5, 2, 6), Holder: 1, Type: 1, Gen: 2}},
		{api.ResvOp{Op: preempt, Who: 2, Key: 6, New: 5, Type: 2}, api.Resv{Regs: regs(2, 6), Holder: 2, Type: 2, Gen: 3}},
	}
	allowed := [][4]bool{ // 1 reads, 1 writes, 2 reads, 2 writes
		{true, true, true, true},
		{true, true, true, false},
		{true, true, true, false},
		{false, false, true, true},
	}
	for i, step := range steps {
		does(t, r, step.o, step.want)
		r, _ = resv.Do(r, step.o)
		got := [4]bool{resv.Allowed(r, 1, 1), resv.Allowed(r, 1, 2), resv.Allowed(r, 2, 1), resv.Allowed(r, 2, 2)}
		if got != allowed[i] || resv.Check(r) != nil {
			t.Errorf("step %d: allowed %v, want %v", i, got, allowed[i])
		}
	}
}

// P14.1: each of the six operations by one who is registered, with the right key and with a wrong one, and by one who isn't.
func TestKeys(t *testing.T) {
	for op := 1; op <= 6; op++ {
		for _, r := range []api.Resv{free(1, 5, 3, 7), held(1, 2, 1, 5, 3, 7), held(3, 5, 1, 5, 3, 7)} {
			kind := max(1, r.Type)
			for _, key := range []int{0, 4, 6, 7, math.MaxInt} { // none is 1's
				o := api.ResvOp{Op: op, Who: 1, Key: key, New: 7, Type: kind}
				if op == forget {
					want := counted(r)
					want.Regs = regs(1, 7, 3, 7)
					does(t, r, o, want)
					continue
				}
				refuses(t, r, o, api.ErrConflict)
			}
			for _, key := range []int{1, 5, 7} { // 2 has none
				o := api.ResvOp{Op: op, Who: 2, Key: key, New: 7, Type: kind}
				if op == forget {
					want := counted(r)
					want.Regs = regs(1, 5, 2, 7, 3, 7)
					does(t, r, o, want)
					continue
				}
				refuses(t, r, o, api.ErrConflict)
			}
			if op != register && op != forget {
				refuses(t, r, api.ResvOp{Op: op, Who: 2, New: 7, Type: kind}, api.ErrConflict)
				refuses(t, r, api.ResvOp{Op: op, Who: 0, New: 5, Type: kind}, api.ErrConflict)
			}
		}
	}
}

// P14.1: registrations at the beginning, in the middle and at the end, from none to four; a fifth is refused, a key is replaced also then.
func TestRegister(t *testing.T) {
	for _, op := range []int{register, forget} {
		o := func(who, key, other int) api.ResvOp { return api.ResvOp{Op: op, Who: who, Key: key, New: other} }
		does(t, free(), o(0, 0, 1), counted(free(0, 1)))
		does(t, free(), o(math.MaxInt, 0, math.MaxInt), counted(free(math.MaxInt, math.MaxInt)))
		does(t, free(4, 1), o(2, 0, 8), counted(free(2, 8, 4, 1)))
		does(t, free(4, 1), o(6, 0, 8), counted(free(4, 1, 6, 8)))
		does(t, free(4, 1, 8, 2), o(0, 0, 8), counted(free(0, 8, 4, 1, 8, 2)))
		does(t, free(4, 1, 8, 2), o(5, 0, 1), counted(free(4, 1, 5, 1, 8, 2)))
		does(t, free(4, 1, 8, 2), o(9, 0, 1), counted(free(4, 1, 8, 2, 9, 1)))
		for at, who := range []int{1, 3, 5, 7} {
			want := []int{2, 12, 4, 14, 6, 16}
			want = slices.Insert(want, 2*at, who, 99)
			does(t, free(2, 12, 4, 14, 6, 16), o(who, 0, 99), counted(free(want...)))
		}
		four := []int{2, 12, 4, 14, 6, 16, 8, 18}
		for _, who := range []int{0, 1, 3, 5, 7, 9, math.MaxInt} {
			for _, r := range []api.Resv{free(four...), held(4, 3, four...), held(8, 6, four...)} {
				refuses(t, r, o(who, 0, 12), api.ErrFull)
			}
		}
		for at := range 4 {
			replaced := slices.Clone(four)
			replaced[2*at+1] = 12
			for kind := range 7 {
				holder := four[2*at]
				if kind == 0 {
					holder = nobody
				}
				does(t, held(holder, kind, four...), o(four[2*at], four[2*at+1], 12), counted(held(holder, kind, replaced...)))
			}
		}
	}
	refuses(t, free(1, 2, 2, 2, 3, 2, 4, 2), api.ResvOp{Op: register, Who: 5, Key: 1, New: 2}, api.ErrConflict)
	does(t, free(1, 2, 2, 2, 3, 2, 4, 2), api.ResvOp{Op: forget, Who: 4, Key: 77, New: 3}, counted(free(1, 2, 2, 2, 3, 2, 4, 3)))
}

// P14.1: a registration that ends, of who holds it and of another one, under each type, where it is the only one and where others are registered.
func TestEnds(t *testing.T) {
	for _, op := range []int{register, forget} {
		o := func(who, key int) api.ResvOp { return api.ResvOp{Op: op, Who: who, Key: key} }
		does(t, free(3, 5), o(3, 5), counted(free()))
		does(t, free(3, 5), o(2, 0), counted(free(3, 5))) // there is none that ends
		does(t, free(), o(2, 0), counted(free()))
		does(t, free(1, 5, 2, 5, 3, 5, 4, 5), o(5, 0), counted(free(1, 5, 2, 5, 3, 5, 4, 5)))
		does(t, free(1, 5, 2, 6, 3, 7), o(2, 6), counted(free(1, 5, 3, 7)))
		for kind := 1; kind <= 6; kind++ {
			does(t, held(3, kind, 3, 5), o(3, 5), counted(free()))
			does(t, held(3, kind, 1, 4, 3, 5, 6, 5), o(1, 4), counted(held(3, kind, 3, 5, 6, 5)))
			does(t, held(3, kind, 1, 4, 3, 5, 6, 5), o(6, 5), counted(held(3, kind, 1, 4, 3, 5)))
			does(t, held(3, kind, 1, 4, 3, 5, 6, 5), o(2, 0), counted(held(3, kind, 1, 4, 3, 5, 6, 5)))
		}
		for kind := 1; kind <= 4; kind++ {
			does(t, held(3, kind, 1, 4, 3, 5, 6, 5), o(3, 5), counted(free(1, 4, 6, 5)))
			does(t, held(1, kind, 1, 4, 3, 5, 6, 5), o(1, 4), counted(free(3, 5, 6, 5)))
		}
		for kind := 5; kind <= 6; kind++ {
			does(t, held(3, kind, 1, 4, 3, 5, 6, 5), o(3, 5), counted(held(1, kind, 1, 4, 6, 5)))
			does(t, held(1, kind, 1, 4, 3, 5, 6, 5), o(1, 4), counted(held(3, kind, 3, 5, 6, 5)))
			does(t, held(6, kind, 1, 4, 3, 5, 6, 5), o(6, 5), counted(held(1, kind, 1, 4, 3, 5)))
			does(t, held(6, kind, 3, 4, 6, 5, 8, 1, 9, 1), o(6, 5), counted(held(3, kind, 3, 4, 8, 1, 9, 1)))
		}
	}
	refuses(t, held(1, 1, 1, 4), api.ResvOp{Op: register, Who: 1}, api.ErrConflict)
	refuses(t, free(), api.ResvOp{Op: register, Who: 1, Key: 1}, api.ErrConflict)
	does(t, held(1, 1, 1, 4), api.ResvOp{Op: forget, Who: 1}, counted(free()))
	does(t, held(1, 1, 1, 4), api.ResvOp{Op: forget, Who: 1, Key: 5}, counted(free()))
}

// P14.1: Stays is the operation's behind OpRegister and OpForget alone.
func TestStays(t *testing.T) {
	for _, was := range []bool{false, true} {
		for _, is := range []bool{false, true} {
			r := held(3, 5, 1, 4, 3, 5)
			r.Stays = was
			behind := func(stays bool, want api.Resv) api.Resv {
				want.Stays = stays
				return want
			}
			for _, op := range []int{register, forget} {
				o := func(who, key, other int) api.ResvOp {
					return api.ResvOp{Op: op, Who: who, Key: key, New: other, Stays: is}
				}
				does(t, r, o(2, 0, 9), behind(is, counted(held(3, 5, 1, 4, 2, 9, 3, 5))))
				does(t, r, o(1, 4, 9), behind(is, counted(held(3, 5, 1, 9, 3, 5))))
				does(t, r, o(1, 4, 4), behind(is, counted(held(3, 5, 1, 4, 3, 5))))
				does(t, r, o(3, 5, 0), behind(is, counted(held(1, 5, 1, 4))))
				does(t, r, o(1, 4, 0), behind(is, counted(held(3, 5, 3, 5))))
				does(t, r, o(2, 0, 0), behind(is, counted(r)))
			}
			does(t, r, api.ResvOp{Op: reserve, Who: 1, Key: 4, Type: 5, Stays: is}, r)
			does(t, behind(was, free(1, 4)), api.ResvOp{Op: reserve, Who: 1, Key: 4, Type: 5, Stays: is}, behind(was, held(1, 5, 1, 4)))
			does(t, r, api.ResvOp{Op: release, Who: 1, Key: 4, Type: 5, Stays: is}, behind(was, free(1, 4, 3, 5)))
			does(t, r, api.ResvOp{Op: clearAll, Who: 1, Key: 4, Stays: is}, behind(was, counted(free())))
			does(t, r, api.ResvOp{Op: preempt, Who: 1, Key: 4, New: 5, Type: 1, Stays: is}, behind(was, counted(held(1, 1, 1, 4))))
		}
	}
}

// P14.1: OpReserve where nobody holds it, by a holder with the type and with another one, and by one who is none.
func TestReserve(t *testing.T) {
	for kind := 1; kind <= 6; kind++ {
		o := func(who, key, kind int) api.ResvOp { return api.ResvOp{Op: reserve, Who: who, Key: key, Type: kind} }
		does(t, free(1, 4), o(1, 4, kind), held(1, kind, 1, 4))
		does(t, free(1, 4, 2, 5), o(2, 5, kind), held(2, kind, 1, 4, 2, 5))
		r := held(2, kind, 1, 4, 2, 5)
		for other := 1; other <= 6; other++ {
			if other != kind {
				refuses(t, r, o(2, 5, other), api.ErrConflict)
				refuses(t, r, o(1, 4, other), api.ErrConflict)
			}
		}
		does(t, r, o(2, 5, kind), r)
		if kind >= 5 {
			does(t, r, o(1, 4, kind), r) // 1 holds it, too; the Holder stays
		} else {
			refuses(t, r, o(1, 4, kind), api.ErrConflict)
		}
		refuses(t, r, o(3, 0, kind), api.ErrConflict)
		refuses(t, r, o(2, 4, kind), api.ErrConflict)
	}
}

// P14.1: OpRelease by a holder with the type and with another one, and by one who is no holder, with any type.
func TestRelease(t *testing.T) {
	for kind := 1; kind <= 6; kind++ {
		o := func(who, key, kind int) api.ResvOp { return api.ResvOp{Op: release, Who: who, Key: key, Type: kind} }
		r := held(2, kind, 1, 4, 2, 5)
		does(t, r, o(2, 5, kind), free(1, 4, 2, 5))
		does(t, free(1, 4), o(1, 4, kind), free(1, 4))
		for other := 1; other <= 6; other++ {
			if other != kind {
				refuses(t, r, o(2, 5, other), api.ErrForm)
				refuses(t, r, o(2, 4, other), api.ErrConflict)
			}
			switch {
			case kind < 5:
				does(t, r, o(1, 4, other), r)
			case other == kind:
				does(t, r, o(1, 4, other), free(1, 4, 2, 5))
			default:
				refuses(t, r, o(1, 4, other), api.ErrForm)
			}
			refuses(t, r, o(1, 5, other), api.ErrConflict)
			refuses(t, r, o(3, 0, other), api.ErrConflict)
		}
	}
}

// P14.1: OpClear by any one who is registered, whatever the type.
func TestClear(t *testing.T) {
	for kind := -1; kind <= 8; kind++ {
		o := api.ResvOp{Op: clearAll, Who: 2, Key: 5, New: 3, Type: kind}
		does(t, free(2, 5), o, counted(free()))
		does(t, free(1, 4, 2, 5), o, counted(free()))
		for holds := 1; holds <= 6; holds++ {
			does(t, held(1, holds, 1, 4, 2, 5), o, counted(free()))
			does(t, held(2, holds, 1, 4, 2, 5, 3, 6, 4, 7), o, counted(free()))
		}
		o.Key = 4
		refuses(t, held(1, 1, 1, 4, 2, 5), o, api.ErrConflict)
	}
}

// P14.1: OpPreempt of others' keys, of the Holder's, of one's own, of none, and of key 0, also where Who is the Holder.
func TestPreempt(t *testing.T) {
	o := func(who, key, other, kind int) api.ResvOp {
		return api.ResvOp{Op: preempt, Who: who, Key: key, New: other, Type: kind}
	}
	for kind := 1; kind <= 6; kind++ { // nobody holds it, and nobody does then
		does(t, free(1, 4, 2, 5, 3, 6), o(2, 5, 4, kind), counted(free(2, 5, 3, 6)))
		does(t, free(1, 4, 2, 5, 3, 4), o(2, 5, 4, kind), counted(free(2, 5)))
		does(t, free(1, 4, 2, 4, 3, 4, 4, 4), o(3, 4, 4, kind), counted(free(3, 4)))
		refuses(t, free(1, 4, 2, 5), o(2, 5, 5, kind), api.ErrConflict)
		refuses(t, free(1, 4, 2, 5), o(2, 5, 6, kind), api.ErrConflict)
		refuses(t, free(1, 4, 2, 5), o(2, 5, 0, kind), api.ErrConflict)
		refuses(t, free(1, 4, 2, 5), o(2, 4, 5, kind), api.ErrConflict)
		refuses(t, free(2, 5), o(2, 5, 5, kind), api.ErrConflict)
		refuses(t, free(1, 4, 2, 5), o(3, 0, 4, kind), api.ErrConflict)
	}
	for was := 1; was <= 6; was++ {
		for kind := 1; kind <= 6; kind++ {
			r := held(2, was, 1, 4, 2, 5, 3, 6, 4, 6)
			does(t, r, o(1, 4, 5, kind), counted(held(1, kind, 1, 4, 3, 6, 4, 6)))       // another Holder's
			does(t, r, o(4, 6, 5, kind), counted(held(4, kind, 1, 4, 3, 6, 4, 6)))       // not the least Who
			does(t, r, o(1, 4, 6, kind), counted(held(2, was, 1, 4, 2, 5)))              // others', two of them
			does(t, r, o(3, 6, 6, kind), counted(held(2, was, 1, 4, 2, 5, 3, 6)))        // others' and one's own
			does(t, r, o(2, 5, 6, kind), counted(held(2, was, 1, 4, 2, 5)))              // the Holder preempts others'
			does(t, r, o(2, 5, 5, kind), counted(held(2, kind, 1, 4, 2, 5, 3, 6, 4, 6))) // its own: the type is the new one
			refuses(t, r, o(1, 4, 4, kind), api.ErrConflict)                             // one's own, and nobody else's
			refuses(t, r, o(1, 4, 7, kind), api.ErrConflict)
			refuses(t, r, o(2, 5, 0, kind), api.ErrConflict)
			alike := held(2, was, 1, 5, 2, 5, 3, 6, 4, 5) // others have the Holder's key
			does(t, alike, o(2, 5, 5, kind), counted(held(2, kind, 2, 5, 3, 6)))
			does(t, alike, o(1, 5, 5, kind), counted(held(1, kind, 1, 5, 3, 6)))
			does(t, alike, o(3, 6, 5, kind), counted(held(3, kind, 3, 6)))
			does(t, held(2, was, 2, 5), o(2, 5, 5, kind), counted(held(2, kind, 2, 5)))
			refuses(t, held(2, was, 2, 5), o(2, 5, 6, kind), api.ErrConflict)
		}
	}
}

// P14.1: Gen is 1 more behind four of the operations, also where nothing else changes, and wraps around at the greatest int.
func TestGen(t *testing.T) {
	ops := []api.ResvOp{
		{Op: register, Who: 1, Key: 4, New: 4},
		{Op: register, Who: 2, New: 6},
		{Op: register, Who: 2},
		{Op: register, Who: 1, Key: 4},
		{Op: forget, Who: 1, Key: 9, New: 4},
		{Op: forget, Who: 2, Key: 9, New: 4},
		{Op: forget, Who: 2},
		{Op: forget, Who: 1},
		{Op: clearAll, Who: 1, Key: 4},
		{Op: preempt, Who: 1, Key: 4, New: 5, Type: 1},
		{Op: preempt, Who: 3, Key: 5, New: 5, Type: 1},
	}
	still := []api.ResvOp{
		{Op: reserve, Who: 3, Key: 5, Type: 2},
		{Op: release, Who: 3, Key: 5, Type: 2},
		{Op: release, Who: 1, Key: 4, Type: 2},
	}
	for _, gens := range [][2]int{{0, 1}, {1, 2}, {255, 256}, {1<<32 - 1, 1 << 32}, {math.MaxInt - 1, math.MaxInt}, {math.MaxInt, math.MinInt}} {
		r := held(3, 2, 1, 4, 3, 5)
		r.Gen = gens[0]
		for _, o := range ops {
			if got, err := resv.Do(r, o); err != nil || got.Gen != gens[1] {
				t.Errorf("%+v behind %d: %d, %v", o, gens[0], got.Gen, err)
			}
		}
		for _, o := range still {
			if got, err := resv.Do(r, o); err != nil || got.Gen != gens[0] {
				t.Errorf("%+v behind %d: %d, %v", o, gens[0], got.Gen, err)
			}
		}
	}
	r := free(1, 4)
	r.Gen = math.MaxInt
	wrapped, err := resv.Do(r, api.ResvOp{Op: register, Who: 1, Key: 4, New: 5})
	if err != nil || !same(wrapped, api.Resv{Regs: regs(1, 5), Holder: nobody, Gen: math.MinInt}) {
		t.Error(wrapped, err)
	}
	refuses(t, wrapped, api.ResvOp{Op: register, Who: 1, Key: 5, New: 6}, api.ErrForm)
}

// P14.1: all operations of a few whos, keys and types, of all reservations of these.
func TestEveryOp(t *testing.T) {
	all := universe([]int{0, 1, 3}, []int{1, 2}, []int{6})
	for _, r := range all {
		each([]int{0, 1, 2, 3}, []int{0, 1, 2, 3}, []int{0, 1, 2, 4, 5, 6, 7}, func(o api.ResvOp) {
			if !agrees(r, o) {
				t.Fatalf("%+v of %+v answers otherwise", o, r)
			}
		})
	}
}

// P14.1: the same of four registrations, of which some keys are alike.
func TestEveryOpOfFour(t *testing.T) {
	for _, list := range [][]api.Reg{regs(0, 1, 2, 1, 3, 1, 5, 1), regs(0, 1, 2, 2, 3, 1, 5, 2), regs(1, 2, 2, 1, 3, 1, 4, 3)} {
		for _, holder := range []int{nobody, list[0].Who, list[1].Who, list[2].Who, list[3].Who} {
			for kind := range 7 {
				if (holder == nobody) != (kind == 0) {
					continue
				}
				r := api.Resv{Regs: list, Holder: holder, Type: kind, Stays: kind%2 == 0, Gen: 1}
				each([]int{0, 1, 2, 3, 4, 5, 6}, []int{0, 1, 2, 3}, []int{1, 3, 4, 5, 6}, func(o api.ResvOp) {
					if !agrees(r, o) {
						t.Fatalf("%+v of %+v answers otherwise", o, r)
					}
				})
			}
		}
	}
}

// drawn is any operation, of few enough numbers that many aren't refused.
func drawn(r *rand.Rand, now api.Resv) api.ResvOp {
	numbers := []int{0, 1, 2, 3, 4, 5, math.MaxInt}
	pick := func() int { return numbers[r.IntN(len(numbers))] }
	o := api.ResvOp{Op: 1 + r.IntN(6), Who: pick(), Key: pick(), New: pick(), Type: 1 + r.IntN(6), Stays: r.IntN(2) == 0}
	switch r.IntN(30) {
	case 0:
		o.Op = r.IntN(20) - 10
	case 1:
		o.Type = r.IntN(20) - 10
	case 2:
		o.Who, o.Key, o.New = o.Who-1, o.Key-1, o.New-1
	}
	if o.Op == clearAll && r.IntN(4) > 0 {
		o.Op = forget
	}
	if o.New == 0 && r.IntN(2) == 0 {
		o.New = 3
	}
	if key, ok := asPlain(now).keys[o.Who]; ok && r.IntN(4) > 0 {
		o.Key = key
	}
	if r.IntN(2) == 0 && now.Type > 0 {
		o.Type = now.Type
	}
	return o
}

// P14.1, P14.2, P14.3: rows of operations in any mix, with Check behind each: in form they stay, one Holder at most is there, and it is registered; who is refused changes nothing.
func TestRows(t *testing.T) {
	r := rand.New(rand.NewPCG(14, 1))
	done := [7]int{}
	for range 400 {
		now := api.Resv{Holder: nobody}
		for range 200 {
			o := drawn(r, now)
			ahead := now
			ahead.Regs = slices.Clone(now.Regs)
			if !agrees(now, o) {
				t.Fatalf("%+v of %+v answers otherwise", o, now)
			}
			next, err := resv.Do(now, o)
			if !same(now, ahead) {
				t.Fatalf("%+v of %+v changed it: %+v", o, ahead, now)
			}
			if err != nil {
				continue
			}
			done[o.Op]++
			if err := resv.Check(next); err != nil || !formOfAll(next) {
				t.Fatalf("%+v of %+v isn't in form: %+v, %v", o, now, next, err)
			}
			holds := slices.IndexFunc(next.Regs, func(reg api.Reg) bool { return reg.Who == next.Holder })
			if (holds < 0) != (next.Holder == nobody) {
				t.Fatalf("%+v of %+v: the Holder isn't registered: %+v", o, now, next)
			}
			now = next
		}
	}
	for op := 1; op <= 6; op++ {
		if done[op] < 300 {
			t.Errorf("of operation %d no more than %d were done: %v", op, done[op], done)
		}
	}
}

// P14.2: of all reservations of a few whos and keys, what an operation makes of them is in form.
func TestStayInForm(t *testing.T) {
	for _, r := range universe([]int{0, 2, math.MaxInt}, []int{1, math.MaxInt}, []int{0, math.MaxInt - 1}) {
		if resv.Check(r) != nil {
			t.Fatalf("%+v is refused", r)
		}
		each([]int{0, 1, math.MaxInt}, []int{0, 1, math.MaxInt}, []int{1, 5}, func(o api.ResvOp) {
			next, err := resv.Do(r, o)
			if err == nil && (!formOfAll(next) || resv.Check(next) != nil) {
				t.Fatalf("%+v of %+v: %+v", o, r, next)
			}
		})
		if s := resv.Start(r); !formOfAll(s) || resv.Check(s) != nil {
			t.Fatalf("Start of %+v: %+v", r, s)
		}
	}
}
