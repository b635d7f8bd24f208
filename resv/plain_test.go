package resv_test

import (
	"encoding/binary"
	"maps"
	"math"
	"slices"

	"citadel/api"
)

// plain is reservations by the chapter's words, without a call of the program: keys by who is registered, the Holder (-1: nobody), and the rest.
type plain struct {
	keys   map[int]int
	holder int
	kind   int
	stays  bool
	gen    int
}

// asPlain is the same reservations, which are in form.
func asPlain(r api.Resv) plain {
	p := plain{keys: map[int]int{}, holder: r.Holder, kind: r.Type, stays: r.Stays, gen: r.Gen}
	for _, reg := range r.Regs {
		p.keys[reg.Who] = reg.Key
	}
	return p
}

// resv is the same reservations as the program has them.
func (p plain) resv() api.Resv {
	r := api.Resv{Holder: p.holder, Type: p.kind, Stays: p.stays, Gen: p.gen}
	for _, who := range slices.Sorted(maps.Keys(p.keys)) {
		r.Regs = append(r.Regs, api.Reg{Who: who, Key: p.keys[who]})
	}
	return r
}

// holds is whether one is a holder.
func (p plain) holds(who int) bool {
	if p.holder == -1 {
		return false
	}
	if p.kind == 5 || p.kind == 6 {
		_, ok := p.keys[who]
		return ok
	}
	return p.holder == who
}

// out ends one's registration.
func (p *plain) out(who int) {
	delete(p.keys, who)
	if p.holder != who {
		return
	}
	if p.kind >= 5 && len(p.keys) > 0 {
		p.holder = slices.Min(slices.Collect(maps.Keys(p.keys)))
		return
	}
	p.holder, p.kind = -1, 0
}

// count counts one more.
func (p *plain) count() {
	if p.gen == math.MaxInt {
		p.gen = math.MinInt
		return
	}
	p.gen++
}

// formOf is whether an operation is in form.
func formOf(o api.ResvOp) bool {
	if o.Op < 1 || o.Op > 6 || o.Who < 0 || o.Key < 0 || o.New < 0 {
		return false
	}
	typed := o.Op == 2 || o.Op == 3 || o.Op == 5
	return !typed || 1 <= o.Type && o.Type <= 6
}

// do is the reservations behind an operation, or its error.
func (p plain) do(o api.ResvOp) (plain, error) {
	if !formOf(o) {
		return plain{}, api.ErrForm
	}
	key, is := p.keys[o.Who]
	if o.Op == 1 {
		if is && key != o.Key || !is && o.Key != 0 {
			return plain{}, api.ErrConflict
		}
	} else if o.Op != 6 && (!is || key != o.Key) {
		return plain{}, api.ErrConflict
	}
	p.keys = maps.Clone(p.keys)
	switch o.Op {
	case 2:
		if p.holder == -1 {
			p.holder, p.kind = o.Who, o.Type
		} else if !p.holds(o.Who) || o.Type != p.kind {
			return plain{}, api.ErrConflict
		}
	case 3:
		if p.holds(o.Who) && o.Type != p.kind {
			return plain{}, api.ErrForm
		}
		if p.holds(o.Who) {
			p.holder, p.kind = -1, 0
		}
	case 4:
		p.keys, p.holder, p.kind = nil, -1, 0
		p.count()
	case 5:
		return p.preempt(o)
	default:
		if o.New == 0 {
			p.out(o.Who)
		} else if !is && len(p.keys) == 4 {
			return plain{}, api.ErrFull
		} else {
			p.keys[o.Who] = o.New
		}
		p.stays = o.Stays
		p.count()
	}
	return p, nil
}

// preempt is the reservations behind a preemption by one who is registered with that key.
func (p plain) preempt(o api.ResvOp) (plain, error) {
	takes := p.holder != -1 && p.keys[p.holder] == o.New
	ended := 0
	for _, who := range slices.Sorted(maps.Keys(p.keys)) {
		if who != o.Who && p.keys[who] == o.New {
			delete(p.keys, who)
			ended++
		}
	}
	if ended == 0 && !takes {
		return plain{}, api.ErrConflict
	}
	if takes {
		p.holder, p.kind = o.Who, o.Type
	}
	p.count()
	return p, nil
}

// allowed is whether an access is allowed.
func (p plain) allowed(who, access int) bool {
	_, is := p.keys[who]
	switch {
	case access != 1 && access != 2:
		return false
	case p.holder == -1 || p.holds(who):
		return true
	case access == 2:
		return is && (p.kind == 3 || p.kind == 4)
	}
	return p.kind == 1 || p.kind == 3 || p.kind == 5 || p.kind == 4 && is
}

// formOfAll is whether reservations are in form.
func formOfAll(r api.Resv) bool {
	if len(r.Regs) > 4 || r.Gen < 0 {
		return false
	}
	held := r.Holder == -1 && r.Type == 0
	for i, reg := range r.Regs {
		if reg.Who < 0 || reg.Key <= 0 || i > 0 && r.Regs[i-1].Who >= reg.Who {
			return false
		}
		if reg.Who == r.Holder && 1 <= r.Type && r.Type <= 6 {
			held = true
		}
	}
	return held
}

// cellOf is a sector that says this, in form or not: the numbers as they are, and as many registrations as many says that there are.
func cellOf(gen uint64, stays, kind, many byte, holder uint64, pairs ...uint64) api.Cell {
	var c api.Cell
	b := binary.BigEndian.AppendUint64(nil, gen)
	b = append(b, stays, kind, many)
	b = binary.BigEndian.AppendUint64(b, holder)
	for _, n := range pairs {
		b = binary.BigEndian.AppendUint64(b, n)
	}
	copy(c[:], b)
	return c
}

// plainNote is the sector of reservations in form.
func plainNote(r api.Resv) api.Cell {
	var pairs []uint64
	for _, reg := range r.Regs {
		pairs = append(pairs, uint64(reg.Who), uint64(reg.Key))
	}
	stays := byte(0)
	if r.Stays {
		stays = 1
	}
	return cellOf(uint64(r.Gen), stays, byte(r.Type), byte(len(r.Regs)), uint64(r.Holder)+1, pairs...)
}

// plainTake is the reservations whose sector it is, and whether it is one's.
func plainTake(c api.Cell) (api.Resv, bool) {
	number := func(at int) int { return int(binary.BigEndian.Uint64(c[at:])) }
	many := int(c[10])
	if c[8] > 1 || many > 4 {
		return api.Resv{}, false
	}
	r := api.Resv{Gen: number(0), Stays: c[8] == 1, Type: int(c[9]), Holder: number(11) - 1}
	at := 19
	for range many {
		r.Regs = append(r.Regs, api.Reg{Who: number(at), Key: number(at + 8)})
		at += 16
	}
	for _, b := range c[at:] {
		if b != 0 {
			return api.Resv{}, false
		}
	}
	if !formOfAll(r) {
		return api.Resv{}, false
	}
	return r, true
}
