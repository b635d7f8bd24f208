package cache_test

import (
	"errors"
	"math"
	"math/rand/v2"
	"slices"
	"testing"

	"citadel/api"
	"citadel/cache"
)

// plain is a cache by the chapter's words: a list of lines, the one used longest ago first, without a call of the program.
type plain struct {
	quota int
	lines []api.Line
}

// find is where the block's line stands, or -1.
func (p *plain) find(unit, block int) int {
	for i, l := range p.lines {
		if l.Unit == unit && l.Block == block {
			return i
		}
	}
	return -1
}

// out takes the line at i out.
func (p *plain) out(i int) api.Line {
	l := p.lines[i]
	p.lines = append(append([]api.Line{}, p.lines[:i]...), p.lines[i+1:]...)
	return l
}

func (p *plain) get(unit, block int) (api.Line, bool) {
	i := p.find(unit, block)
	if i < 0 {
		return api.Line{}, false
	}
	l := p.out(i)
	p.lines = append(p.lines, l)
	return l, true
}

func (p *plain) put(l api.Line) error {
	if i := p.find(l.Unit, l.Block); i >= 0 {
		if p.out(i).Dirty {
			l.Dirty = true
		}
	} else if len(p.lines) == p.quota {
		clean := -1
		for i := len(p.lines) - 1; i >= 0; i-- {
			if !p.lines[i].Dirty {
				clean = i
			}
		}
		if clean < 0 {
			return api.ErrFull
		}
		p.out(clean)
	}
	p.lines = append(p.lines, l)
	return nil
}

func (p *plain) dirty() []api.Line {
	var out []api.Line
	for _, l := range p.lines {
		if l.Dirty {
			out = append(out, l)
		}
	}
	return out
}

func (p *plain) clean() int {
	many := len(p.dirty())
	for i := range p.lines {
		p.lines[i].Dirty = false
	}
	return many
}

func (p *plain) drop(unit int) int {
	var stay []api.Line
	for _, l := range p.lines {
		if l.Unit != unit {
			stay = append(stay, l)
		}
	}
	many := len(p.lines) - len(stay)
	p.lines = stay
	return many
}

// line is a line of unit 0 whose bytes tell which one it is.
func line(block int, dirty bool) api.Line {
	return api.Line{Block: block, Cell: cell(block), Dirty: dirty}
}

// cell is bytes of which the first and the last one tell n.
func cell(n int) api.Cell {
	return api.Cell{0: byte(n), 1: byte(n >> 8), 127: ^byte(n)}
}

// blocks is the blocks of the lines, in their order.
func blocks(lines []api.Line) []int {
	var out []int
	for _, l := range lines {
		out = append(out, l.Block)
	}
	return out
}

// made is a cache of that quota.
func made(t *testing.T, quota int) *cache.Cache {
	t.Helper()
	c, err := cache.New(quota)
	if err != nil || c == nil {
		t.Fatalf("New(%d): %v, %v", quota, c, err)
	}
	return c
}

// put puts lines that must find room.
func put(t *testing.T, c *cache.Cache, lines ...api.Line) {
	t.Helper()
	for _, l := range lines {
		if err := c.Put(l); err != nil {
			t.Fatalf("Put of %d, %d: %v", l.Unit, l.Block, err)
		}
	}
}

// holds asks whether the cache holds these lines, in this order, and of them those dirty ones.
func holds(t *testing.T, c *cache.Cache, want ...api.Line) {
	t.Helper()
	if got := c.Lines(); !slices.Equal(got, want) {
		t.Fatalf("Lines: blocks %v, want %v (or other units, bytes, or dirty ones)", blocks(got), blocks(want))
	}
	var dirty []api.Line
	for _, l := range want {
		if l.Dirty {
			dirty = append(dirty, l)
		}
	}
	if got := slices.Collect(c.Dirty()); !slices.Equal(got, dirty) {
		t.Fatalf("Dirty: blocks %v, want %v", blocks(got), blocks(dirty))
	}
}

// full is a cache of that quota, full of dirty lines of blocks 0, 1, 2 .., and of a clean one at each of the places.
func full(t *testing.T, quota int, clean ...int) (*cache.Cache, []api.Line) {
	t.Helper()
	c := made(t, quota)
	var lines []api.Line
	for i := range quota {
		lines = append(lines, line(i, !slices.Contains(clean, i)))
	}
	put(t, c, lines...)
	holds(t, c, lines...)
	return c, lines
}

// P13.1: the chapter's example, step by step.
func TestExample(t *testing.T) {
	a, b, d := line(1, true), line(2, false), line(4, true)
	c := made(t, 2)
	holds(t, c)
	put(t, c, a)
	holds(t, c, a)
	put(t, c, b)
	holds(t, c, a, b)
	put(t, c, line(3, false))
	holds(t, c, a, line(3, false))
	if l, ok := c.Get(0, 2); ok || l != (api.Line{}) {
		t.Fatal("b is there", l, ok)
	}
	put(t, c, d)
	holds(t, c, a, d)
	if err := c.Put(line(5, false)); err != api.ErrFull {
		t.Fatal(err)
	}
	holds(t, c, a, d)
}

// P13.1: quotas from 1 to 8, and those outside.
func TestQuotas(t *testing.T) {
	for _, quota := range []int{math.MinInt, -9, -8, -1, 0, 9, 10, 257, 1 << 32, math.MaxInt} {
		if c, err := cache.New(quota); c != nil || err != api.ErrRange {
			t.Errorf("New(%d): %v, %v", quota, c, err)
		}
	}
	for quota := 1; quota <= 8; quota++ {
		c := made(t, quota)
		if c.Quota() != quota {
			t.Errorf("Quota: %d, want %d", c.Quota(), quota)
		}
		holds(t, c)
		var all []api.Line
		for i := range 20 {
			all = append(all, line(i, false))
			put(t, c, line(i, false))
			holds(t, c, all[max(0, len(all)-quota):]...)
		}
		if c.Quota() != quota {
			t.Errorf("Quota behind puts: %d, want %d", c.Quota(), quota)
		}
	}
}

// call is one call: its kind, and its arguments.
type call struct {
	kind string
	line api.Line
}

// draw is any call, of few enough places that many meet.
func draw(r *rand.Rand, n int) call {
	places := []int{0, 1, 2, 3, -1, math.MinInt, math.MaxInt, 1 << 32}
	l := api.Line{Unit: places[r.IntN(3)*3], Block: places[r.IntN(len(places))], Cell: cell(n), Dirty: r.IntN(3) == 0}
	kinds := []string{"put", "put", "put", "put", "put", "get", "get", "get", "clean", "drop"}
	kind := kinds[r.IntN(len(kinds))]
	if kind == "drop" && r.IntN(2) > 0 {
		kind = "put"
	}
	return call{kind, l}
}

// both makes the call of the cache and of the plain one: whether they answered the same.
func both(c *cache.Cache, p *plain, k call) bool {
	switch k.kind {
	case "get":
		l, ok := c.Get(k.line.Unit, k.line.Block)
		want, wanted := p.get(k.line.Unit, k.line.Block)
		return l == want && ok == wanted
	case "put":
		err := c.Put(k.line)
		want := p.put(k.line)
		return want == nil && err == nil || want != nil && err != nil && errors.Is(err, want)
	case "clean":
		return c.Clean() == p.clean()
	}
	return c.Drop(k.line.Unit) == p.drop(k.line.Unit)
}

// P13.1: any mix of calls answers as a plain list does, and leaves the lines in its order.
func TestMix(t *testing.T) {
	r := rand.New(rand.NewPCG(13, 1))
	for quota := 1; quota <= 8; quota++ {
		for range 40 {
			c, p := made(t, quota), &plain{quota: quota}
			for n := range 150 {
				k := draw(r, n)
				if !both(c, p, k) {
					t.Fatalf("quota %d, call %d: %s of %d, %d answers otherwise", quota, n, k.kind, k.line.Unit, k.line.Block)
				}
				holds(t, c, p.lines...)
			}
		}
	}
}

// P13.1: of a few blocks and short rows of calls, all rows.
func TestAllRows(t *testing.T) {
	var kinds []call
	for unit := range 2 {
		kinds = append(kinds, call{"drop", api.Line{Unit: unit}})
	}
	for block := range 3 {
		kinds = append(kinds, call{"get", line(block, false)}, call{"put", line(block, false)}, call{"put", line(block, true)})
	}
	kinds = append(kinds, call{"clean", api.Line{}}, call{"put", api.Line{Unit: 1, Cell: cell(9)}})
	rows := 1
	for range 4 {
		rows *= len(kinds)
	}
	for row := range rows {
		c, p := made(t, 2), &plain{quota: 2}
		for left := row + rows; left > 1; left /= len(kinds) {
			k := kinds[left%len(kinds)]
			k.line.Cell[5] = byte(left)
			if !both(c, p, k) {
				t.Fatalf("row %d: %s of %d, %d answers otherwise", row, k.kind, k.line.Unit, k.line.Block)
			}
		}
		holds(t, c, p.lines...)
	}
}

// P13.1: a line that is got is the one used last, and so another one goes; one that isn't there changes nothing.
func TestGet(t *testing.T) {
	c, lines := full(t, 3, 0, 1, 2)
	for _, at := range [][2]int{{0, 3}, {0, -1}, {1, 0}, {-1, 1}, {0, math.MinInt}, {math.MaxInt, 2}} {
		if l, ok := c.Get(at[0], at[1]); ok || l != (api.Line{}) {
			t.Fatal(at, l, ok)
		}
		holds(t, c, lines...)
	}
	for _, block := range []int{0, 2, 2, 1} {
		if l, ok := c.Get(0, block); !ok || l != lines[block] {
			t.Fatal(block, l, ok)
		}
	}
	holds(t, c, lines[0], lines[2], lines[1])
	if l, ok := c.Get(0, 0); !ok || l != lines[0] {
		t.Fatal(l, ok)
	}
	put(t, c, line(7, false))
	holds(t, c, lines[1], lines[0], line(7, false))
}

// P13.1: unit and block are told apart, whatever numbers they are.
func TestPlaces(t *testing.T) {
	numbers := []int{0, 1, -1, math.MinInt, math.MaxInt, 1 << 32, 256}
	for _, unit := range numbers {
		for _, block := range numbers {
			if unit == block {
				continue
			}
			c := made(t, 3)
			one := api.Line{Unit: unit, Block: block, Cell: cell(1), Dirty: true}
			other := api.Line{Unit: block, Block: unit, Cell: cell(2)}
			put(t, c, one, other)
			holds(t, c, one, other)
			if l, ok := c.Get(unit, block); !ok || l != one {
				t.Fatal(unit, block, l, ok)
			}
			if l, ok := c.Get(unit, unit); ok || l != (api.Line{}) {
				t.Fatal(unit, block, l, ok)
			}
			holds(t, c, other, one)
			if n := c.Drop(unit); n != 1 {
				t.Fatal(unit, block, n)
			}
			holds(t, c, other)
		}
	}
}

// P13.2: a full cache's only clean line goes, wherever it stands, and all others keep their order.
func TestOneClean(t *testing.T) {
	for quota := 1; quota <= 8; quota++ {
		for at := range quota {
			for _, dirty := range []bool{false, true} {
				c, lines := full(t, quota, at)
				last := line(20, dirty)
				put(t, c, last)
				holds(t, c, append(slices.Delete(lines, at, at+1), last)...)
				if l, ok := c.Get(0, at); ok || l != (api.Line{}) {
					t.Fatal(quota, at, l, ok)
				}
			}
		}
	}
}

// P13.2: of several clean lines the one used longest ago goes.
func TestSeveralClean(t *testing.T) {
	c, lines := full(t, 8, 2, 4, 7)
	for i, at := range []int{2, 4, 7} {
		last := line(20+i, true)
		put(t, c, last)
		lines = slices.DeleteFunc(append(lines, last), func(l api.Line) bool { return l.Block == at })
		holds(t, c, lines...)
	}
	if err := c.Put(line(30, false)); err != api.ErrFull {
		t.Fatal(err)
	}
	holds(t, c, lines...)
}

// P13.2: where no line is clean, a put of another block is refused and changes nothing; one of a block that is there is taken.
func TestFullOfDirty(t *testing.T) {
	for quota := 1; quota <= 8; quota++ {
		c, lines := full(t, quota)
		for _, l := range []api.Line{line(9, false), line(9, true), line(-1, true), {Unit: 1, Cell: cell(3)}, {Unit: -1, Block: math.MaxInt}} {
			if err := c.Put(l); err != api.ErrFull {
				t.Fatal(quota, l.Block, err)
			}
			holds(t, c, lines...)
		}
		for at := range quota {
			for _, dirty := range []bool{false, true} {
				c, lines := full(t, quota)
				other := api.Line{Block: at, Cell: cell(50), Dirty: dirty}
				put(t, c, other)
				other.Dirty = true
				holds(t, c, append(slices.Delete(lines, at, at+1), other)...)
			}
		}
	}
}

// P13.2: a dirty line goes by Drop alone, and there are never more lines than the quota, whatever is called.
func TestDirtyStay(t *testing.T) {
	r := rand.New(rand.NewPCG(13, 2))
	for quota := 1; quota <= 8; quota++ {
		c := made(t, quota)
		for n := range 4000 {
			ahead := slices.Collect(c.Dirty())
			k := draw(r, n)
			switch k.kind {
			case "put":
				c.Put(k.line)
			case "get":
				c.Get(k.line.Unit, k.line.Block)
			case "clean":
				c.Clean()
			case "drop":
				c.Drop(k.line.Unit)
			}
			behind := c.Lines()
			if len(behind) > quota {
				t.Fatal(quota, len(behind))
			}
			for _, l := range ahead {
				stays := slices.ContainsFunc(behind, func(m api.Line) bool {
					return m.Unit == l.Unit && m.Block == l.Block && (m.Dirty || k.kind == "clean")
				})
				if stays == (k.kind == "drop" && l.Unit == k.line.Unit) {
					t.Fatalf("quota %d, call %d, %s: the dirty line of %d, %d stays: %v", quota, n, k.kind, l.Unit, l.Block, stays)
				}
			}
		}
	}
}

// P13.1: a clean line over a dirty one is dirty, and so is a dirty one over a clean one; a clean one over a clean one is clean.
func TestOver(t *testing.T) {
	for _, was := range []bool{false, true} {
		for _, is := range []bool{false, true} {
			c := made(t, 3)
			put(t, c, line(1, was), line(2, false), api.Line{Block: 1, Cell: cell(60), Dirty: is})
			want := api.Line{Block: 1, Cell: cell(60), Dirty: was || is}
			holds(t, c, line(2, false), want)
			if l, ok := c.Get(0, 1); !ok || l != want {
				t.Fatal(was, is, l, ok)
			}
			many := 0
			if was || is {
				many = 1
			}
			if n := c.Clean(); n != many {
				t.Fatal(was, is, n)
			}
			put(t, c, line(1, false))
			holds(t, c, line(2, false), line(1, false))
		}
	}
}

// P13.1: Clean of no line, of none that is dirty, of some and of all; the order stays, and what was dirty may go.
func TestClean(t *testing.T) {
	if n := made(t, 4).Clean(); n != 0 {
		t.Fatal(n)
	}
	for _, clean := range [][]int{{0, 1, 2, 3}, {1, 3}, {0}, nil} {
		c, lines := full(t, 4, clean...)
		if n := c.Clean(); n != 4-len(clean) {
			t.Fatal(clean, n)
		}
		for i := range lines {
			lines[i].Dirty = false
		}
		holds(t, c, lines...)
		if n := c.Clean(); n != 0 {
			t.Fatal(clean, n)
		}
		holds(t, c, lines...)
		put(t, c, line(8, true))
		holds(t, c, append(lines[1:], line(8, true))...)
	}
}

// P13.1: Drop of a unit without lines, with one, with all; dirty ones go too, and there is room then.
func TestDrop(t *testing.T) {
	c := made(t, 3)
	if c.Drop(0) != 0 || c.Drop(-1) != 0 {
		t.Fatal("of no line")
	}
	one, other, third := line(1, true), api.Line{Unit: -7, Block: 1, Cell: cell(2), Dirty: true}, line(3, false)
	put(t, c, one, other, third)
	for _, unit := range []int{1, 7, math.MinInt, math.MaxInt} {
		if n := c.Drop(unit); n != 0 {
			t.Fatal(unit, n)
		}
		holds(t, c, one, other, third)
	}
	if n := c.Drop(-7); n != 1 {
		t.Fatal(n)
	}
	holds(t, c, one, third)
	if l, ok := c.Get(-7, 1); ok || l != (api.Line{}) {
		t.Fatal(l, ok)
	}
	put(t, c, line(4, true))
	holds(t, c, one, third, line(4, true))
	if n := c.Drop(0); n != 3 {
		t.Fatal(n)
	}
	holds(t, c)
	if n := c.Drop(0); n != 0 || c.Quota() != 3 {
		t.Fatal(n, c.Quota())
	}
	put(t, c, line(1, false)) // nothing is left of the dirty one
	holds(t, c, line(1, false))
}

// P13.1: the dirty lines come in their order, as often as they are asked for, and end where they are left.
func TestDirty(t *testing.T) {
	c, lines := full(t, 8, 0, 3, 4, 7)
	want := []api.Line{lines[1], lines[2], lines[5], lines[6]}
	dirty := c.Dirty()
	for many := 1; many <= len(want); many++ {
		var got []api.Line
		dirty(func(l api.Line) bool {
			got = append(got, l)
			return len(got) < many
		})
		if !slices.Equal(got, want[:many]) {
			t.Fatal(many, blocks(got))
		}
	}
	for range 2 {
		if got := slices.Collect(dirty); !slices.Equal(got, want) {
			t.Fatal(blocks(got))
		}
	}
	for outer := range dirty {
		var got []api.Line
		for inner := range dirty {
			got = append(got, inner)
		}
		if !slices.Equal(got, want) {
			t.Fatal(outer.Block, blocks(got))
		}
	}
	holds(t, c, lines...)
	if got := slices.Collect(made(t, 1).Dirty()); len(got) != 0 {
		t.Fatal(blocks(got))
	}
}

// P13.1: the dirty lines are those that were dirty when they were asked for, whatever is called while or after.
func TestDirtyChanged(t *testing.T) {
	changes := []func(c *cache.Cache){
		func(c *cache.Cache) { c.Clean() },
		func(c *cache.Cache) { c.Drop(0) },
		func(c *cache.Cache) { c.Get(0, 1) },
		func(c *cache.Cache) { c.Put(api.Line{Block: 3, Cell: cell(70), Dirty: true}) },
		func(c *cache.Cache) { c.Put(api.Line{Unit: 1, Block: 9, Dirty: true}) },
		func(c *cache.Cache) { c.Put(line(2, true)) },
		func(c *cache.Cache) { c.Drop(0); c.Put(line(3, false)) },
		func(c *cache.Cache) { c.Lines()[1].Block = 90 },
	}
	for i, change := range changes {
		for at := -1; at <= 3; at++ { // ahead of all, behind the first one .. behind all
			c, lines := full(t, 4, 2)
			want := []api.Line{lines[0], lines[1], lines[3]}
			dirty := c.Dirty()
			if at < 0 {
				change(c)
			}
			var got []api.Line
			for l := range dirty {
				got = append(got, l)
				if len(got) == at+1 {
					change(c)
				}
			}
			if !slices.Equal(got, want) {
				t.Fatalf("change %d, at %d: %v", i, at, blocks(got))
			}
			if got := slices.Collect(dirty); !slices.Equal(got, want) {
				t.Fatalf("change %d, at %d, once more: %v", i, at, blocks(got))
			}
		}
	}
	c, _ := full(t, 4)
	before := c.Dirty()
	c.Clean()
	if len(slices.Collect(c.Dirty())) != 0 || len(slices.Collect(before)) != 4 {
		t.Fatal("behind Clean")
	}
}

// P13.1: calls that are made in the middle of the dirty lines do what they do elsewhere.
func TestCallsBetween(t *testing.T) {
	c, lines := full(t, 3, 1)
	for l := range c.Dirty() {
		if l.Block == 0 {
			put(t, c, line(6, false))
		}
		if got, ok := c.Get(0, l.Block); !ok || got != l {
			t.Fatal(l.Block, got, ok)
		}
	}
	holds(t, c, line(6, false), lines[0], lines[2])
	for l := range c.Dirty() {
		if n := c.Drop(0); n != map[int]int{0: 3, 2: 0}[l.Block] {
			t.Fatal(l.Block, n)
		}
	}
	holds(t, c)
}

// P13.3: what was put last of a block is got, as long as it is there.
func TestLastPut(t *testing.T) {
	r := rand.New(rand.NewPCG(13, 3))
	for quota := 1; quota <= 8; quota++ {
		c := made(t, quota)
		last := make(map[[2]int]api.Cell)
		for n := range 3000 {
			k := draw(r, n)
			switch k.kind {
			case "put":
				if c.Put(k.line) == nil {
					last[[2]int{k.line.Unit, k.line.Block}] = k.line.Cell
					if l, ok := c.Get(k.line.Unit, k.line.Block); !ok || l.Cell != k.line.Cell {
						t.Fatal(quota, n, ok)
					}
				}
			case "clean":
				c.Clean()
			case "drop":
				c.Drop(k.line.Unit)
			}
			for _, l := range c.Lines() {
				got, ok := c.Get(l.Unit, l.Block)
				if !ok || got != l || l.Cell != last[[2]int{l.Unit, l.Block}] {
					t.Fatal(quota, n, l.Unit, l.Block, ok)
				}
			}
			if l, ok := c.Get(k.line.Unit, k.line.Block); ok && l.Cell != last[[2]int{k.line.Unit, k.line.Block}] {
				t.Fatal(quota, n, ok)
			}
		}
	}
}

// P13.3: what was handed in or came out and is written over behind the call changes nothing.
func TestWrittenOver(t *testing.T) {
	c := made(t, 3)
	l := line(1, true)
	put(t, c, l, line(2, false))
	l.Cell[0], l.Dirty, l.Block = 99, false, 98
	want := []api.Line{line(1, true), line(2, false)}
	holds(t, c, want...)
	lines := c.Lines()
	elder := slices.Clone(lines)
	for i := range lines {
		lines[i] = api.Line{Unit: 5, Block: 97, Dirty: true}
	}
	_ = append(lines[:1], line(96, true))
	_ = append(lines, line(95, true))
	holds(t, c, want...)
	kept := c.Lines()
	for d := range c.Dirty() {
		d.Cell[3], d.Dirty = 94, false
	}
	got, _ := c.Get(0, 1)
	got.Cell[4], got.Dirty = 93, false
	holds(t, c, want[1], want[0])
	put(t, c, line(7, true))
	c.Clean()
	c.Drop(0)
	if !slices.Equal(kept, elder) {
		t.Fatal("a list that was answered changed", blocks(kept))
	}
}

// P13.3: two caches share nothing.
func TestTwoCaches(t *testing.T) {
	c, lines := full(t, 4, 1)
	d, others := full(t, 2)
	if err := d.Put(line(1, true)); err != nil {
		t.Fatal(err)
	}
	if err := d.Put(line(2, false)); err != api.ErrFull {
		t.Fatal(err)
	}
	holds(t, c, lines...)
	c.Clean()
	c.Drop(0)
	holds(t, c)
	holds(t, d, others...)
}

// P13.1: a nil cache holds none, and takes none.
func TestNil(t *testing.T) {
	var c *cache.Cache
	for range 2 {
		if c.Quota() != 0 || c.Clean() != 0 || c.Drop(0) != 0 || c.Drop(math.MinInt) != 0 {
			t.Error("not 0")
		}
		if l, ok := c.Get(0, 0); ok || l != (api.Line{}) {
			t.Error(l, ok)
		}
		for _, l := range []api.Line{{}, line(1, true), {Unit: -1, Block: math.MaxInt}} {
			if err := c.Put(l); err != api.ErrFull {
				t.Error(err)
			}
		}
		if lines := c.Lines(); len(lines) != 0 {
			t.Error(lines)
		}
		for l := range c.Dirty() {
			t.Error(l)
		}
	}
}
