package cdb_test

import (
	"bytes"
	"slices"
	"testing"

	"citadel/api"
	"citadel/cdb"
)

// numbers is the blocks' numbers alone.
func numbers(all []block) []int {
	var list []int
	for _, one := range all {
		list = append(list, one.at)
	}
	return list
}

// P15.1: the blocks of a CmdRead are noughts, from Block on, Many of them.
func TestBlocksOfRead(t *testing.T) {
	for _, x := range []struct {
		c    api.Command
		want []int
	}{
		{read(0, 0, 1), []int{0}},
		{read(1, 2, 3), []int{2, 3, 4}},
		{read(0, 15, 1), []int{15}},
		{read(1, 13, 3), []int{13, 14, 15}},
		{read(0, 0, 16), []int{0, 1, 2, 3, 4, 5, 6, 7, 8, 9, 10, 11, 12, 13, 14, 15}},
	} {
		got := collect(x.c)
		if !slices.Equal(numbers(got), x.want) {
			t.Errorf("%+v: %v", x.c, numbers(got))
		}
		for _, one := range got {
			if one.cell != (api.Cell{}) {
				t.Errorf("%+v: block %d isn't noughts", x.c, one.at)
			}
		}
	}
}

// P15.1: the blocks of a CmdWrite are its Data, piece by piece.
func TestBlocksOfWrite(t *testing.T) {
	for _, x := range []struct {
		c    api.Command
		want []int
	}{
		{write(1, 5, 1), []int{5}},
		{write(0, 0, 2), []int{0, 1}},
		{write(1, 14, 2), []int{14, 15}},
		{write(0, 0, 16), []int{0, 1, 2, 3, 4, 5, 6, 7, 8, 9, 10, 11, 12, 13, 14, 15}},
	} {
		got := collect(x.c)
		if !slices.Equal(numbers(got), x.want) {
			t.Errorf("unit %d from %d: %v", x.c.Unit, x.c.Block, numbers(got))
		}
		var joined []byte
		for _, one := range got {
			joined = append(joined, one.cell[:]...)
		}
		if !bytes.Equal(joined, x.c.Data) {
			t.Errorf("unit %d from %d: other bytes", x.c.Unit, x.c.Block)
		}
	}
}

// P15.1: other commands have no blocks, nor have those that Check refuses.
func TestBlocksOfNone(t *testing.T) {
	for _, c := range []api.Command{
		{}, {Kind: 3}, {Kind: 4, Many: 2}, {Kind: 5, Block: 1, Many: 1}, {Kind: 6, Many: 1}, {Kind: 7, Many: 1}, {Kind: 8, Many: 1}, {Kind: -1, Many: 1}, {Kind: 257, Many: 1}, {Kind: 258, Many: 1, Data: data(128)},
		reserve(0, api.ResvOp{Op: 1, New: 1}),
		read(0, 0, 0), read(2, 0, 1), read(256, 0, 1), read(-1, 0, 1), read(0, -1, 2), read(0, 16, 1), read(0, 15, 2), read(0, 0, 17), read(0, 1, 16), read(0, 65535, 65535), read(0, 1, -1),
		write(0, 0, 0), write(2, 0, 1), write(0, 16, 1), write(0, 15, 2), write(0, 0, 17), write(0, -1, 1), write(1, 1, 16),
		{Kind: 2, Many: 1}, {Kind: 2, Many: 1, Data: data(127)}, {Kind: 2, Many: 1, Data: data(129)}, {Kind: 2, Many: 2, Data: data(128)}, {Kind: 2, Data: data(128)},
		{Kind: 1, Many: 1, Data: data(1)}, {Kind: 1, Many: 1, Resv: api.ResvOp{Who: 1}}, {Kind: 2, Many: 1, Data: data(128), Resv: api.ResvOp{Stays: true}},
	} {
		for range 2 {
			if got := collect(c); got != nil {
				t.Errorf("%+v: %v", c, numbers(got))
			}
		}
	}
}

// P15.1: it ends where it is left, at each place.
func TestBlocksLeft(t *testing.T) {
	for _, c := range []api.Command{read(0, 3, 5), write(1, 0, 16)} {
		for leave := 1; leave <= c.Many; leave++ {
			called := 0
			cdb.Blocks(c)(func(at int, _ api.Cell) bool {
				if at != c.Block+called {
					t.Errorf("block %d comes at place %d", at, called)
				}
				called++
				return called < leave
			})
			if called != leave {
				t.Errorf("left at %d, called %d times", leave, called)
			}
		}
	}
}

// P15.1: each run begins anew, also behind one that was left, and within another one.
func TestBlocksTwice(t *testing.T) {
	for _, c := range []api.Command{read(0, 3, 5), write(1, 4, 3)} {
		want := plainBlocks(c)
		run := cdb.Blocks(c)
		again := func() []block {
			var all []block
			for at, cell := range run {
				all = append(all, block{at, cell})
			}
			return all
		}
		for range run {
			break
		}
		if !slices.Equal(again(), want) || !slices.Equal(again(), want) {
			t.Error("a later run is another one")
		}
		i := 0
		for at, cell := range run {
			if (block{at, cell}) != want[i] {
				t.Errorf("block %d at place %d", at, i)
			}
			if i == 1 && !slices.Equal(again(), want) {
				t.Error("a run within a run is another one")
			}
			i++
		}
	}
}

// P15.3: what two iterators tell isn't kept in one place.
func TestBlocksOfTwo(t *testing.T) {
	one, two, three := write(1, 4, 3), read(0, 4, 3), write(0, 0, 16)
	three.Data = bytes.Repeat([]byte{9}, 2048)
	first, second, third := cdb.Blocks(one), cdb.Blocks(two), cdb.Blocks(three)
	for i, x := range []struct {
		run  func(func(int, api.Cell) bool)
		want []block
	}{{first, plainBlocks(one)}, {second, plainBlocks(two)}, {third, plainBlocks(three)}, {first, plainBlocks(one)}} {
		var got []block
		for at, cell := range x.run {
			got = append(got, block{at, cell})
		}
		if !slices.Equal(got, x.want) {
			t.Errorf("%d: %v", i, numbers(got))
		}
	}
}

// P15.3: the blocks are those of the Data as it was when they were asked for, whatever is written over it ahead of a run, and within it.
func TestBlocksWrittenOver(t *testing.T) {
	c := write(1, 4, 3)
	want := plainBlocks(c)
	run := cdb.Blocks(c)
	i := 0
	for at, cell := range run {
		if (block{at, cell}) != want[i] {
			t.Fatalf("block %d, place %d", at, i)
		}
		for k := range c.Data {
			c.Data[k] = byte(200 + i)
		}
		c.Block, c.Many = 9, 1
		i++
	}
	if i != 3 {
		t.Error(i)
	}
	i = 0
	for at, cell := range run {
		if (block{at, cell}) != want[i] {
			t.Fatalf("second run, block %d, place %d", at, i)
		}
		for k := range cell {
			cell[k] = 77
		}
		i++
	}
	if i != 3 {
		t.Error(i)
	}
}

// P15.3: neither asking nor running changes the Data, or the room behind it.
func TestBlocksChangeNothing(t *testing.T) {
	given, room := roomy(write(1, 4, 3))
	ahead := bytes.Clone(room)
	run := cdb.Blocks(given)
	for range 2 {
		for _, cell := range run {
			clear(cell[:])
		}
	}
	if !bytes.Equal(room, ahead) {
		t.Error("the Data is changed")
	}
}
