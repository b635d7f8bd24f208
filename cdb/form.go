package cdb

import (
	"bytes"

	"citadel/api"
	"citadel/words"
)

const (
	narrow  = 1                            // bytes of Kind, Unit, Op, Type and Stays
	middle  = 2                            // bytes of Block and Many
	wide    = 8                            // bytes of Key and New
	head    = 2*narrow + 2*middle          // bytes that each command begins with
	longest = head + api.Blocks*api.Sector // bytes of the longest command, a CmdWrite
)

// number is a number as a command's bytes say it.
type number struct{ size, n int }

// Encode is a command's bytes.
func Encode(c api.Command) ([]byte, error) {
	if !inForm(c) {
		return nil, api.ErrCommand
	}
	var said []byte
	for _, each := range numbers(c) {
		var err error
		if said, err = words.Put(said, each.size, each.n); err != nil {
			return nil, api.ErrCommand
		}
	}
	return append(said, c.Data...), nil
}

// Decode is the command of bytes.
func Decode(b []byte) (api.Command, error) {
	// Whatever is too long isn't copied.
	if len(b) > longest {
		return api.Command{}, api.ErrCommand
	}
	c, err := told(b)
	if err != nil {
		return api.Command{}, api.ErrCommand
	}
	// A command's bytes are what Encode makes of it: so all is looked at, bytes that nothing was taken of, too.
	if made, err := Encode(c); err != nil || !bytes.Equal(made, b) {
		return api.Command{}, api.ErrCommand
	}
	return c, nil
}

// numbers is what a command's bytes say ahead of its Data, one number behind the other.
func numbers(c api.Command) []number {
	all := []number{{narrow, c.Kind}, {narrow, c.Unit}, {middle, c.Block}, {middle, c.Many}}
	if c.Kind != api.CmdReserve {
		return all
	}
	o, stays := c.Resv, 0
	if o.Stays {
		stays = 1
	}
	return append(all, number{narrow, o.Op}, number{wide, o.Key}, number{wide, o.New}, number{narrow, o.Type}, number{narrow, stays})
}

// told is what bytes say, in form or not.
func told(b []byte) (api.Command, error) {
	said, rest, err := take(b, narrow, narrow, middle, middle)
	if err != nil {
		return api.Command{}, err
	}
	c := api.Command{Kind: said[0], Unit: said[1], Block: said[2], Many: said[3]}
	switch c.Kind {
	case api.CmdWrite:
		c.Data = rest
	case api.CmdReserve:
		c.Resv, err = operation(rest)
	}
	return c, err
}

// operation is the operation that bytes begin with, in form or not.
func operation(b []byte) (api.ResvOp, error) {
	said, _, err := take(b, narrow, wide, wide, narrow, narrow)
	if err != nil {
		return api.ResvOp{}, err
	}
	return api.ResvOp{Op: said[0], Key: said[1], New: said[2], Type: said[3], Stays: said[4] == 1}, nil
}

// take is the numbers of these sizes that bytes begin with, and the bytes behind them.
func take(b []byte, sizes ...int) ([]int, []byte, error) {
	var said []int
	for _, size := range sizes {
		n, rest, err := words.Take(b, size)
		if err != nil {
			return nil, nil, err
		}
		said, b = append(said, n), rest
	}
	return said, b, nil
}
