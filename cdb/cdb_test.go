package cdb_test

import (
	"bytes"
	"math"
	"math/rand/v2"
	"slices"
	"testing"

	"citadel/api"
	"citadel/cdb"
)

// data is so many bytes, no two blocks of which are alike.
func data(many int) []byte {
	b := make([]byte, many)
	for i := range b {
		b[i] = byte(i + i/128*7 + 1)
	}
	return b
}

// read is a CmdRead.
func read(unit, at, many int) api.Command {
	return api.Command{Kind: api.CmdRead, Unit: unit, Block: at, Many: many}
}

// write is a CmdWrite with as many bytes of Data as it should have.
func write(unit, at, many int) api.Command {
	return api.Command{Kind: api.CmdWrite, Unit: unit, Block: at, Many: many, Data: data(128 * many)}
}

// reserve is a CmdReserve.
func reserve(unit int, o api.ResvOp) api.Command {
	return api.Command{Kind: api.CmdReserve, Unit: unit, Resv: o}
}

// collect is the blocks that Blocks tells.
func collect(c api.Command) []block {
	var all []block
	for at, cell := range cdb.Blocks(c) {
		all = append(all, block{at, cell})
	}
	return all
}

// asks holds all calls of one command against the plain ones.
func asks(t *testing.T, c api.Command) {
	t.Helper()
	b, err := cdb.Encode(c)
	if plainForm(c) {
		if err != nil || !bytes.Equal(b, plainEncode(c)) {
			t.Fatalf("Encode of %+v: % x, %v", c, b, err)
		}
		if d, err := cdb.Decode(b); err != nil || !plainSame(d, c) || !cdb.Same(d, c) {
			t.Fatalf("Decode of Encode of %+v: %+v, %v", c, d, err)
		}
	} else if err != api.ErrCommand || len(b) != 0 {
		t.Fatalf("Encode of %+v: % x, %v", c, b, err)
	}
	if err, want := cdb.Check(c), plainCheck(c); err != want {
		t.Fatalf("Check of %+v: %v; want %v", c, err, want)
	}
	if a, want := cdb.Access(c), plainAccess(c); a != want {
		t.Fatalf("Access of %+v: %d; want %d", c, a, want)
	}
	if got, want := collect(c), plainBlocks(c); !slices.Equal(got, want) {
		t.Fatalf("Blocks of %+v: %d of them; want %d", c, len(got), len(want))
	}
}

// sayings is a table of errors that Check should answer.
type sayings []struct {
	c    api.Command
	want error
}

// hold asks Check for each of them.
func (s sayings) hold(t *testing.T) {
	t.Helper()
	for i, x := range s {
		if err := cdb.Check(x.c); err != x.want {
			t.Errorf("%d: Check of %+v: %v; want %v", i, x.c, err, x.want)
		}
		_, err := cdb.Encode(x.c)
		if (err != nil) != (x.want == api.ErrCommand) || err != nil && err != api.ErrCommand {
			t.Errorf("%d: Encode of %+v: %v", i, x.c, err)
		}
	}
}

// P15.1: what Check says of numbers at their edges, and whether Encode refuses them.
func TestCheckNumbers(t *testing.T) {
	of := func(kind, unit, at, many int) api.Command {
		return api.Command{Kind: kind, Unit: unit, Block: at, Many: many}
	}
	sayings{
		{of(0, 0, 0, 1), api.ErrCommand},
		{of(1, 0, 0, 1), nil},
		{of(3, 0, 0, 0), nil},
		{of(4, 0, 0, 0), nil},
		{of(5, 0, 0, 0), nil},
		{of(6, 0, 0, 0), nil},
		{of(7, 0, 0, 0), nil},
		{of(8, 0, 0, 0), api.ErrCommand},
		{of(-1, 0, 0, 1), api.ErrCommand},
		{of(257, 0, 0, 1), api.ErrCommand},
		{of(math.MaxInt, 0, 0, 1), api.ErrCommand},
		{of(math.MinInt, 0, 0, 1), api.ErrCommand},
		{of(1, -1, 0, 1), api.ErrCommand},
		{of(1, 1, 0, 1), nil},
		{of(1, 2, 0, 1), api.ErrRange},
		{of(1, 255, 0, 1), api.ErrRange},
		{of(1, 256, 0, 1), api.ErrCommand},
		{of(1, math.MaxInt, 0, 1), api.ErrCommand},
		{of(1, math.MinInt, 0, 1), api.ErrCommand},
		{of(5, 1, 0, 0), nil},
		{of(5, 2, 0, 0), api.ErrRange},
		{of(5, 255, 0, 0), api.ErrRange},
		{of(5, 256, 0, 0), api.ErrCommand},
		{of(5, -1, 0, 0), api.ErrCommand},
		{of(1, 0, -1, 1), api.ErrCommand},
		{of(1, 0, 15, 1), nil},
		{of(1, 0, 16, 1), api.ErrRange},
		{of(1, 0, 65535, 1), api.ErrRange},
		{of(1, 0, 65536, 1), api.ErrCommand},
		{of(1, 0, math.MaxInt, 1), api.ErrCommand},
		{of(1, 0, math.MinInt, 1), api.ErrCommand},
		{of(1, 0, 0, -1), api.ErrCommand},
		{of(1, 0, 0, 0), api.ErrRange},
		{of(1, 0, 0, 15), nil},
		{of(1, 0, 0, 16), nil},
		{of(1, 0, 0, 17), api.ErrRange},
		{of(1, 0, 0, 65535), api.ErrRange},
		{of(1, 0, 0, 65536), api.ErrCommand},
		{of(1, 0, 0, math.MaxInt), api.ErrCommand},
		{of(1, 0, 1, math.MaxInt), api.ErrCommand},
		{of(1, 0, 0, math.MinInt), api.ErrCommand},
		{of(1, 0, 16, 0), api.ErrRange},
		{of(1, 0, 65535, 65535), api.ErrRange},
		// Of kinds without blocks Block and Many say nothing, but they are in form or not.
		{of(3, 0, 16, 17), nil},
		{of(4, 1, 65535, 65535), nil},
		{of(5, 1, 99, 0), nil},
		{of(6, 1, 65535, 0), nil},
		{of(7, 1, 0, 65535), nil},
		{of(3, 0, 65536, 0), api.ErrCommand},
		{of(4, 0, 0, 65536), api.ErrCommand},
		{of(5, 0, -1, 0), api.ErrCommand},
		{of(6, 0, 0, -1), api.ErrCommand},
		{of(7, 0, 65536, 65536), api.ErrCommand},
	}.hold(t)
}

// P15.1: CmdWrite has 128 times Many bytes of Data, of at most 16 blocks; all others have none.
func TestCheckData(t *testing.T) {
	with := func(kind, many, size int) api.Command {
		return api.Command{Kind: kind, Many: many, Data: data(size)}
	}
	sayings{
		{with(2, 0, 0), api.ErrRange},
		{with(2, 0, 1), api.ErrCommand},
		{with(2, 0, 128), api.ErrCommand},
		{with(2, 1, 0), api.ErrCommand},
		{with(2, 1, 1), api.ErrCommand},
		{with(2, 1, 127), api.ErrCommand},
		{with(2, 1, 128), nil},
		{with(2, 1, 129), api.ErrCommand},
		{with(2, 1, 256), api.ErrCommand},
		{with(2, 2, 128), api.ErrCommand},
		{with(2, 2, 256), nil},
		{with(2, 15, 15*128), nil},
		{with(2, 16, 16*128-1), api.ErrCommand},
		{with(2, 16, 16*128), nil},
		{with(2, 16, 16*128+1), api.ErrCommand},
		{with(2, 17, 16*128), api.ErrCommand},
		{with(2, 17, 17*128), api.ErrCommand},
		{with(2, 65535, 0), api.ErrCommand},
		{with(2, 65535, 65535*128), api.ErrCommand},
		{with(2, 65536, 0), api.ErrCommand},
		{with(2, -1, 0), api.ErrCommand},
		{with(2, -1, 128), api.ErrCommand},
		// 128 times these wraps around to 0 and to 128.
		{with(2, 1<<57, 0), api.ErrCommand},
		{with(2, 1<<57+1, 128), api.ErrCommand},
		{with(2, math.MinInt, 0), api.ErrCommand},
		{with(2, math.MinInt+1, 128), api.ErrCommand},
		{with(1, 1, 1), api.ErrCommand},
		{with(1, 1, 128), api.ErrCommand},
		{with(3, 0, 1), api.ErrCommand},
		{with(4, 0, 1), api.ErrCommand},
		{with(5, 0, 1), api.ErrCommand},
		{with(6, 0, 1), api.ErrCommand},
		{with(7, 0, 1), api.ErrCommand},
		{with(7, 1, 128), api.ErrCommand},
		// An empty list of Data is none.
		{api.Command{Kind: 1, Many: 1, Data: []byte{}}, nil},
		{api.Command{Kind: 6, Data: []byte{}}, nil},
		{api.Command{Kind: 2, Data: []byte{}}, api.ErrRange},
	}.hold(t)
}

// P15.1: CmdReserve has an operation in form; all others have the zero one.
func TestCheckOperation(t *testing.T) {
	for unit := 0; unit < 2; unit++ {
		of := func(o api.ResvOp) api.Command { return reserve(unit, o) }
		sayings{
			{of(api.ResvOp{}), nil},
			{of(api.ResvOp{Op: 255}), nil},
			{of(api.ResvOp{Op: 256}), api.ErrCommand},
			{of(api.ResvOp{Op: -1}), api.ErrCommand},
			{of(api.ResvOp{Op: math.MaxInt}), api.ErrCommand},
			{of(api.ResvOp{Op: math.MinInt}), api.ErrCommand},
			{of(api.ResvOp{Key: 1}), nil},
			{of(api.ResvOp{Key: math.MaxInt}), nil},
			{of(api.ResvOp{Key: -1}), api.ErrCommand},
			{of(api.ResvOp{Key: math.MinInt}), api.ErrCommand},
			{of(api.ResvOp{New: 1}), nil},
			{of(api.ResvOp{New: math.MaxInt}), nil},
			{of(api.ResvOp{New: -1}), api.ErrCommand},
			{of(api.ResvOp{New: math.MinInt}), api.ErrCommand},
			{of(api.ResvOp{Type: 6}), nil},
			{of(api.ResvOp{Type: 7}), nil},
			{of(api.ResvOp{Type: 255}), nil},
			{of(api.ResvOp{Type: 256}), api.ErrCommand},
			{of(api.ResvOp{Type: -1}), api.ErrCommand},
			{of(api.ResvOp{Type: math.MaxInt}), api.ErrCommand},
			{of(api.ResvOp{Type: math.MinInt}), api.ErrCommand},
			{of(api.ResvOp{Who: 1}), api.ErrCommand},
			{of(api.ResvOp{Who: -1}), api.ErrCommand},
			{of(api.ResvOp{Who: math.MaxInt}), api.ErrCommand},
			{of(api.ResvOp{Who: math.MinInt}), api.ErrCommand},
			{of(api.ResvOp{Stays: true}), nil},
			{of(api.ResvOp{Op: 255, Key: math.MaxInt, New: math.MaxInt, Type: 255, Stays: true}), nil},
			{of(api.ResvOp{Op: 1, Who: 1, New: 5}), api.ErrCommand},
		}.hold(t)
	}
	for _, c := range []api.Command{read(0, 0, 1), write(0, 0, 1), {Kind: 3}, {Kind: 4}, {Kind: 5}, {Kind: 7}} {
		if err := cdb.Check(c); err != nil {
			t.Errorf("%+v: %v", c, err)
		}
		for _, o := range []api.ResvOp{{Op: 1}, {Who: 1}, {Key: 1}, {New: 1}, {Type: 1}, {Stays: true}, {Op: -1}, {Who: -1}, {Key: -1}, {New: -1}, {Type: -1}} {
			c.Resv = o
			sayings{{c, api.ErrCommand}}.hold(t)
		}
	}
}

// P15.1: ErrCommand comes first, where both apply.
func TestCheckFirst(t *testing.T) {
	sayings{
		{api.Command{Kind: 8, Unit: 2}, api.ErrCommand},
		{api.Command{Kind: 0, Unit: 255, Block: 65535}, api.ErrCommand},
		{api.Command{Kind: 1, Unit: 2, Many: 1, Data: data(1)}, api.ErrCommand},
		{api.Command{Kind: 1, Block: 16, Many: 1, Data: data(128)}, api.ErrCommand},
		{api.Command{Kind: 1, Many: 0, Data: data(1)}, api.ErrCommand},
		{api.Command{Kind: 1, Many: 0, Resv: api.ResvOp{Op: 1}}, api.ErrCommand},
		{api.Command{Kind: 2, Unit: 2, Many: 1}, api.ErrCommand},
		{api.Command{Kind: 2, Block: 16, Many: 1, Data: data(127)}, api.ErrCommand},
		{api.Command{Kind: 2, Many: 17, Data: data(17 * 128)}, api.ErrCommand},
		{api.Command{Kind: 3, Unit: 2, Resv: api.ResvOp{Stays: true}}, api.ErrCommand},
		{api.Command{Kind: 6, Unit: 2, Resv: api.ResvOp{Who: 1}}, api.ErrCommand},
		{api.Command{Kind: 6, Unit: 2, Resv: api.ResvOp{Op: 1}}, api.ErrRange},
		{api.Command{Kind: 7, Unit: 2, Block: 65536}, api.ErrCommand},
		{api.Command{Kind: 1, Unit: 2, Block: 16, Many: 17}, api.ErrRange},
	}.hold(t)
}

// P15.1: the blocks of a CmdRead and of a CmdWrite are within the unit's, and any: at each Block and Many about the edges.
func TestCheckBlocks(t *testing.T) {
	for unit := 0; unit <= 2; unit++ {
		for at := 0; at <= 18; at++ {
			for many := 0; many <= 18; many++ {
				var want error
				if unit == 2 || many == 0 || at+many > 16 {
					want = api.ErrRange
				}
				sayings{{read(unit, at, many), want}}.hold(t)
				if many > 16 {
					want = api.ErrCommand
				}
				sayings{{write(unit, at, many), want}}.hold(t)
			}
		}
	}
}

// P15.1: Access of each kind, and of kinds that there aren't, in form or not.
func TestAccess(t *testing.T) {
	want := map[int]int{1: api.AccessRead, 2: api.AccessWrite, 3: api.AccessWrite, 4: api.AccessWrite}
	kinds := []int{math.MinInt, -255, 256, 257, 258, 259, 260, 1 << 32, 1<<32 + 1, math.MaxInt}
	for kind := -10; kind <= 20; kind++ {
		kinds = append(kinds, kind)
	}
	for _, kind := range kinds {
		for _, c := range []api.Command{{}, {Unit: 1}, {Unit: 2, Block: 70000, Many: -1}, {Data: data(5)}, {Resv: api.ResvOp{Op: 1, Who: 3}}} {
			c.Kind = kind
			if a := cdb.Access(c); a != want[kind] {
				t.Errorf("%+v: %d", c, a)
			}
		}
	}
}

// P15.1: Same goes by each field, in form or not; no Data is empty Data.
func TestSame(t *testing.T) {
	base := api.Command{Kind: 2, Unit: 1, Block: 3, Many: 1, Data: data(128), Resv: api.ResvOp{Op: 1, Who: 2, Key: 3, New: 4, Type: 5, Stays: true}}
	changes := []func(c *api.Command){
		func(c *api.Command) { c.Kind = 3 },
		func(c *api.Command) { c.Kind = 258 },
		func(c *api.Command) { c.Unit = 0 },
		func(c *api.Command) { c.Unit = 257 },
		func(c *api.Command) { c.Block = 4 },
		func(c *api.Command) { c.Block = 3 + 1<<16 },
		func(c *api.Command) { c.Many = 2 },
		func(c *api.Command) { c.Many = -1 },
		func(c *api.Command) { c.Data = data(127) },
		func(c *api.Command) { c.Data = data(129) },
		func(c *api.Command) { c.Data = nil },
		func(c *api.Command) { c.Data[0]++ },
		func(c *api.Command) { c.Data[64]++ },
		func(c *api.Command) { c.Data[127]++ },
		func(c *api.Command) { c.Resv.Op = 2 },
		func(c *api.Command) { c.Resv.Who = 0 },
		func(c *api.Command) { c.Resv.Key = 4 },
		func(c *api.Command) { c.Resv.Key += math.MinInt },
		func(c *api.Command) { c.Resv.New = 3 },
		func(c *api.Command) { c.Resv.Type = 6 },
		func(c *api.Command) { c.Resv.Stays = false },
		func(c *api.Command) { c.Block, c.Many = c.Many, c.Block },
		func(c *api.Command) { c.Resv.Key, c.Resv.New = c.Resv.New, c.Resv.Key },
	}
	copied := func() api.Command {
		c := base
		c.Data = bytes.Clone(base.Data)
		return c
	}
	if !cdb.Same(base, copied()) || !cdb.Same(base, base) || !cdb.Same(api.Command{}, api.Command{}) {
		t.Error("not the same")
	}
	for i, change := range changes {
		other := copied()
		change(&other)
		if cdb.Same(base, other) || cdb.Same(other, base) || !cdb.Same(other, other) {
			t.Errorf("change %d: %+v", i, other)
		}
	}
	if !cdb.Same(api.Command{Kind: 1}, api.Command{Kind: 1, Data: []byte{}}) || !cdb.Same(api.Command{Data: []byte{}}, api.Command{}) {
		t.Error("no Data isn't empty Data")
	}
}

// P15.1: all calls at all mixes of few numbers, in form and not.
func TestMixes(t *testing.T) {
	operations := []api.ResvOp{{}, {Op: 1, New: 7, Type: 3, Stays: true}, {Op: 255, Key: math.MaxInt, New: math.MaxInt, Type: 255}, {Op: 256}, {Key: -1}, {New: -1}, {Type: 256}, {Who: 1}, {Stays: true}}
	for kind := -1; kind <= 9; kind++ {
		for _, unit := range []int{-1, 0, 1, 2, 255, 256} {
			for _, at := range []int{-1, 0, 1, 15, 16, 65535, 65536} {
				for _, many := range []int{-1, 0, 1, 2, 15, 16, 17, 65535, 65536} {
					for _, size := range []int{0, 1, 128, 256, 15 * 128, 16 * 128, 17 * 128} {
						for _, o := range operations {
							asks(t, api.Command{Kind: kind, Unit: unit, Block: at, Many: many, Data: data(size), Resv: o})
						}
					}
				}
			}
		}
	}
}

// P15.1, P15.2: all calls at commands of any numbers.
func TestAnyCommands(t *testing.T) {
	r := rand.New(rand.NewPCG(15, 1))
	of := func(numbers ...int) int { return numbers[r.IntN(len(numbers))] }
	good, ranged := 0, 0
	for range 60000 {
		c := api.Command{Kind: of(1, 2, 2, 3, 4, 5, 6, 6, 7, r.IntN(10)), Unit: of(0, 1, 1, 2, r.IntN(300)), Block: of(0, r.IntN(17), r.IntN(17), r.IntN(70000)), Many: of(1, r.IntN(17), r.IntN(17), r.IntN(70000))}
		if c.Kind == 2 && c.Many < 20 {
			c.Data = make([]byte, max(0, 128*c.Many+of(0, 0, 0, 0, -1, 1, 128)))
		} else if r.IntN(20) == 0 {
			c.Data = make([]byte, r.IntN(300))
		}
		for i := range c.Data {
			c.Data[i] = byte(r.Uint32())
		}
		if c.Kind == 6 || r.IntN(20) == 0 {
			c.Resv = api.ResvOp{Op: r.IntN(257), Key: int(r.Uint64() >> of(1, 1, 1, 1, 0, 60)), New: int(r.Uint64() >> of(1, 1, 1, 1, 0, 60)), Type: r.IntN(257), Stays: r.IntN(2) == 0}
		}
		asks(t, c)
		if plainForm(c) {
			good++
		}
		if plainCheck(c) == nil {
			ranged++
		}
	}
	if good < 20000 || ranged < 5000 {
		t.Error("too few are in form, or in range:", good, ranged)
	}
}
