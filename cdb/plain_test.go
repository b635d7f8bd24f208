package cdb_test

import (
	"math/big"

	"citadel/api"
)

// block is a command's block: its number and its bytes.
type block struct {
	at   int
	cell api.Cell
}

// plainSame is whether commands are the same, without a call of the program.
func plainSame(a, b api.Command) bool {
	if a.Kind != b.Kind || a.Unit != b.Unit || a.Block != b.Block || a.Many != b.Many || string(a.Data) != string(b.Data) {
		return false
	}
	o, p := a.Resv, b.Resv
	return o.Op == p.Op && o.Who == p.Who && o.Key == p.Key && o.New == p.New && o.Type == p.Type && o.Stays == p.Stays
}

// plainForm is whether a command is in form.
func plainForm(c api.Command) bool {
	if c.Kind < 1 || c.Kind > 7 || c.Unit < 0 || c.Unit > 255 || c.Block < 0 || c.Block > 65535 || c.Many < 0 || c.Many > 65535 {
		return false
	}
	data := 0
	if c.Kind == 2 {
		data = 128 * c.Many
	}
	if len(c.Data) != data || data > 16*128 {
		return false
	}
	o := c.Resv
	if c.Kind == 6 {
		return o.Op >= 0 && o.Op <= 255 && o.Key >= 0 && o.New >= 0 && o.Type >= 0 && o.Type <= 255 && o.Who == 0
	}
	return o.Op == 0 && o.Who == 0 && o.Key == 0 && o.New == 0 && o.Type == 0 && !o.Stays
}

// digits is a number that isn't below 0 as bytes, by a library of great numbers.
func digits(n, size int) []byte {
	return big.NewInt(int64(n)).FillBytes(make([]byte, size))
}

// plainEncode is the bytes of a command in form.
func plainEncode(c api.Command) []byte {
	b := append(digits(c.Kind, 1), digits(c.Unit, 1)...)
	b = append(b, digits(c.Block, 2)...)
	b = append(b, digits(c.Many, 2)...)
	b = append(b, c.Data...)
	if c.Kind == 6 {
		b = append(b, digits(c.Resv.Op, 1)...)
		b = append(b, digits(c.Resv.Key, 8)...)
		b = append(b, digits(c.Resv.New, 8)...)
		b = append(b, digits(c.Resv.Type, 1)...)
		if c.Resv.Stays {
			return append(b, 1)
		}
		b = append(b, 0)
	}
	return b
}

// amount is the number that bytes are, and whether it is an int's.
func amount(b []byte) (int, bool) {
	n := new(big.Int).SetBytes(b)
	return int(n.Int64()), n.IsInt64()
}

// plainDecode is the command of bytes, and whether they are one's.
func plainDecode(b []byte) (api.Command, bool) {
	if len(b) < 6 || b[0] < 1 || b[0] > 7 {
		return api.Command{}, false
	}
	c := api.Command{Kind: int(b[0]), Unit: int(b[1]), Block: 256*int(b[2]) + int(b[3]), Many: 256*int(b[4]) + int(b[5])}
	switch c.Kind {
	case 2:
		c.Data = append(c.Data, b[6:]...)
		return c, c.Many <= 16 && len(b) == 6+128*c.Many
	case 6:
		if len(b) != 25 || b[24] > 1 {
			return api.Command{}, false
		}
		key, good := amount(b[7:15])
		other, fine := amount(b[15:23])
		c.Resv = api.ResvOp{Op: int(b[6]), Key: key, New: other, Type: int(b[23]), Stays: b[24] == 1}
		return c, good && fine
	}
	return c, len(b) == 6
}

// plainCheck is what Check answers.
func plainCheck(c api.Command) error {
	if !plainForm(c) {
		return api.ErrCommand
	}
	if c.Unit > 1 {
		return api.ErrRange
	}
	if (c.Kind == 1 || c.Kind == 2) && (c.Many == 0 || c.Block > 15 || c.Block+c.Many > 16) {
		return api.ErrRange
	}
	return nil
}

// plainAccess is what Access answers.
func plainAccess(c api.Command) int {
	return map[int]int{1: 1, 2: 2, 3: 2, 4: 2}[c.Kind]
}

// plainBlocks is the blocks of a command.
func plainBlocks(c api.Command) []block {
	if plainCheck(c) != nil || c.Kind > 2 {
		return nil
	}
	var all []block
	for i := 0; i < c.Many; i++ {
		one := block{at: c.Block + i}
		for k := 0; k < 128 && c.Kind == 2; k++ {
			one.cell[k] = c.Data[128*i+k]
		}
		all = append(all, one)
	}
	return all
}
