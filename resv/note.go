package resv

import (
	"citadel/api"
	"citadel/words"
)

const (
	wide   = 8 // bytes of Gen, the Holder, and each registration's Who and Key
	narrow = 1 // bytes of Stays, Type, and how many registrations there are
)

// number is a number as a note says it.
type number struct{ size, n int }

// Note is reservations as a sector.
func Note(r api.Resv) (api.Cell, error) {
	if err := Check(r); err != nil {
		return api.Cell{}, err
	}
	var said []byte
	for _, each := range numbers(r) {
		var err error
		if said, err = words.Put(said, each.size, each.n); err != nil {
			return api.Cell{}, api.ErrForm
		}
	}
	return words.Fill(said)
}

// Take is the reservations of a sector.
func Take(c api.Cell) (api.Resv, error) {
	r, err := told(c)
	if err != nil {
		return api.Resv{}, api.ErrForm
	}
	// A note is what Note makes of it: so all is looked at, the noughts behind the registrations, too.
	if made, err := Note(r); err != nil || made != c {
		return api.Resv{}, api.ErrForm
	}
	return r, nil
}

// numbers is what a note says, one number behind the other.
func numbers(r api.Resv) []number {
	stays := 0
	if r.Stays {
		stays = 1
	}
	all := []number{{wide, r.Gen}, {narrow, stays}, {narrow, r.Type}, {narrow, len(r.Regs)}, {wide, r.Holder + 1}}
	for i := range len(r.Regs) {
		all = append(all, number{wide, r.Regs[i].Who}, number{wide, r.Regs[i].Key})
	}
	return all
}

// told is what a sector says, in form or not.
func told(c api.Cell) (api.Resv, error) {
	said, rest, err := take(c[:], wide, narrow, narrow, narrow, wide)
	if err != nil {
		return api.Resv{}, err
	}
	r := api.Resv{Gen: said[0], Stays: said[1] == 1, Type: said[2], Holder: said[4] - 1}
	many := said[3]
	for range many {
		if said, rest, err = take(rest, wide, wide); err != nil {
			return api.Resv{}, err
		}
		r.Regs = append(r.Regs, api.Reg{Who: said[0], Key: said[1]})
	}
	return r, nil
}

// take is the numbers of these sizes that bytes begin with, and the bytes behind them.
func take(b []byte, sizes ...int) ([]int, []byte, error) {
	var said []int
	for _, size := range sizes {
		n, rest, err := words.Take(b, size)
		if err != nil {
			return nil, nil, err
		}
		said, b = append(said, n), rest
	}
	return said, b, nil
}
