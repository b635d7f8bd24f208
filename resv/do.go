package resv

import (
	"cmp"
	"slices"

	"citadel/api"
)

// inForm tells whether an operation is in form.
func inForm(o api.ResvOp) bool {
	if o.Who < 0 || o.Key < 0 || o.New < 0 {
		return false
	}
	switch o.Op {
	case api.OpRegister, api.OpForget, api.OpClear:
		return true
	case api.OpReserve, api.OpRelease, api.OpPreempt:
		return isType(o.Type)
	}
	return false
}

// entitled tells whether an operation isn't in conflict with who is registered, and with who holds it.
func entitled(r api.Resv, o api.ResvOp) bool {
	key, ok := keyOf(r.Regs, o.Who)
	switch o.Op {
	case api.OpForget:
		return true
	case api.OpRegister:
		return key == o.Key // 0, where there is none
	case api.OpReserve:
		somebody, one := held(r, o.Who)
		ok = ok && (!somebody || one && o.Type == r.Type)
	case api.OpPreempt:
		ok = ok && (len(left(r.Regs, o)) < len(r.Regs) || holderHas(r, o.New))
	}
	return ok && key == o.Key
}

// run does an operation that is entitled to it. The reservations are its own.
func run(r api.Resv, o api.ResvOp) (api.Resv, error) {
	switch o.Op {
	case api.OpRegister, api.OpForget:
		return register(r, o)
	case api.OpReserve:
		return reserve(r, o), nil
	case api.OpRelease:
		return release(r, o)
	case api.OpPreempt:
		return preempt(r, o), nil
	}
	return endAll(r), nil
}

// register registers Who with the key New, or ends its registration.
func register(r api.Resv, o api.ResvOp) (api.Resv, error) {
	others := without(r.Regs, func(reg api.Reg) bool { return reg.Who == o.Who })
	switch {
	case o.New == 0:
		r = end(r, o.Who, others)
	case len(others) == api.MaxRegs:
		return api.Resv{}, api.ErrFull
	default:
		r.Regs = append(others, api.Reg{Who: o.Who, Key: o.New})
		slices.SortFunc(r.Regs, func(a, b api.Reg) int { return cmp.Compare(a.Who, b.Who) })
	}
	r.Stays = o.Stays
	r.Gen++
	return r, nil
}

// end leaves the others registered.
func end(r api.Resv, who int, others []api.Reg) api.Resv {
	r.Regs = others
	switch {
	case who != r.Holder:
		return r
	case allHold(r.Type) && len(others) > 0:
		r.Holder = others[0].Who
		return r
	}
	return free(r)
}

// reserve makes Who the Holder, if nobody was.
func reserve(r api.Resv, o api.ResvOp) api.Resv {
	if r.Holder == api.NoHolder {
		r.Holder, r.Type = o.Who, o.Type
	}
	return r
}

// release lets nobody hold it, if Who did.
func release(r api.Resv, o api.ResvOp) (api.Resv, error) {
	_, one := held(r, o.Who)
	switch {
	case !one:
		return r, nil
	case o.Type != r.Type:
		return api.Resv{}, api.ErrForm
	}
	return free(r), nil
}

// endAll ends all registrations.
func endAll(r api.Resv) api.Resv {
	r = free(r)
	r.Regs = nil
	r.Gen++
	return r
}

// preempt ends the others' registrations with the key New, and takes what their Holder held.
func preempt(r api.Resv, o api.ResvOp) api.Resv {
	if holderHas(r, o.New) {
		r.Holder, r.Type = o.Who, o.Type
	}
	r.Regs = left(r.Regs, o)
	r.Gen++
	return r
}

// free is the reservations held by nobody.
func free(r api.Resv) api.Resv {
	r.Holder, r.Type = api.NoHolder, api.TypeNone
	return r
}

// holderHas tells whether somebody holds it whose registration has this key.
func holderHas(r api.Resv, key int) bool {
	own, ok := keyOf(r.Regs, r.Holder)
	return ok && own == key
}

// left is the registrations that a preemption leaves.
func left(regs []api.Reg, o api.ResvOp) []api.Reg {
	return without(regs, func(reg api.Reg) bool { return reg.Who != o.Who && reg.Key == o.New })
}

// without is the registrations that don't end, in new memory.
func without(regs []api.Reg, ends func(api.Reg) bool) []api.Reg {
	var stay []api.Reg
	for i := range len(regs) {
		if !ends(regs[i]) {
			stay = append(stay, regs[i])
		}
	}
	return stay
}
