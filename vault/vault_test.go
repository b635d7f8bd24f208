package vault_test

import (
	"bytes"
	"encoding/hex"
	"math"
	"math/rand/v2"
	"slices"
	"testing"

	"citadel/api"
	"citadel/platter"
	"citadel/vault"
)

// Where the tests' tenant stands, unless they say otherwise: neither at the disk's beginning nor at its end.
const (
	base    = 2
	behind  = 3
	counter = 1
)

// around is what the sectors hold that aren't the tenant's.
func around(at int) api.Cell { return api.Cell{0xee, byte(at), 127: 0xee} }

// ramp is n bytes from one on.
func ramp(from, n int) []byte {
	b := make([]byte, n)
	for i := range b {
		b[i] = byte(from + i)
	}
	return b
}

func tenantKey() []byte { return bytes.Repeat([]byte{7}, 32) }

// lay is a disk on which the tenant's sectors are these, all of them sure.
func lay(t *testing.T, d *plainDisk) *platter.Platter {
	t.Helper()
	p, err := platter.New(base+117+behind, 3)
	if err != nil {
		t.Fatal(err)
	}
	for at := range p.Size() {
		c := around(at)
		if at >= base && at < base+117 {
			c = d.sure[at-base]
		}
		if err := p.Tamper(at, c[:]); err != nil {
			t.Fatal(err)
		}
	}
	if err := p.Raise(counter, d.counter); err != nil {
		t.Fatal(err)
	}
	return p
}

// onDisk is numbers from the base on as the disk's.
func onDisk(numbers []int) []int {
	var all []int
	for _, n := range numbers {
		all = append(all, base+n)
	}
	return all
}

// wantDisk tells where a disk isn't as it should be.
func wantDisk(t *testing.T, p *platter.Platter, d *plainDisk) {
	t.Helper()
	for at := range p.Size() {
		want := around(at)
		if at >= base && at < base+117 {
			want = d.reads[at-base]
		}
		if c, err := p.Read(at); c != want || err != nil {
			t.Fatalf("sector %d of the tenant: %x, %v, want %x", at-base, c, err, want)
		}
	}
	if got, want := slices.Collect(p.Open()), onDisk(d.openOnes()); !slices.Equal(got, want) {
		t.Fatalf("open: %v, want %v", got, want)
	}
	for i := range 3 {
		want := 0
		if i == counter {
			want = d.counter
		}
		if n, err := p.Counter(i); n != want || err != nil {
			t.Fatalf("counter %d: %d, %v, want %d", i, n, err, want)
		}
	}
}

// pair is a vault on a disk, and what both should be.
type pair struct {
	p *platter.Platter
	v *vault.Vault
	d *plainDisk
	m *plainVault
}

// formatted is a plain disk behind a Format.
func formatted(counter int) *plainDisk {
	d := &plainDisk{counter: counter}
	d.do(plainFormat(tenantKey(), counter, ramp(0, 128))...)
	return d
}

// started is a pair behind a start of a disk, which must be good.
func started(t *testing.T, d *plainDisk) *pair {
	t.Helper()
	own := *d
	x := &pair{p: lay(t, d), d: &own}
	x.start(t)
	if x.v == nil {
		t.Fatal("broken")
	}
	return x
}

// start starts once more, and tells where that doesn't do what it should.
func (x *pair) start(t *testing.T) {
	t.Helper()
	made := x.p.Steps()
	steps, m := plainStart(*x.d, tenantKey())
	v, err := vault.Open(x.p, counter, base, tenantKey())
	x.d.do(steps...)
	x.v, x.m = v, m
	if m == nil && (v != nil || err != api.ErrTamper) {
		t.Fatalf("a broken start: %v", err)
	}
	if m != nil && (v == nil || err != nil) {
		t.Fatalf("a good start: %v", err)
	}
	if n := x.p.Steps() - made; n != len(steps) {
		t.Fatalf("a start made %d steps, want %d", n, len(steps))
	}
	wantDisk(t, x.p, x.d)
}

// op is something that changes a vault.
type op struct {
	name  string
	run   func(v *vault.Vault) error
	plain func(m *plainVault, d *plainDisk) []step
}

func committing(name string, lines []api.Line, notes []api.Put) op {
	return op{
		name:  name,
		run:   func(v *vault.Vault) error { return v.Commit(lines, notes) },
		plain: func(m *plainVault, d *plainDisk) []step { return m.change(d, lines, notes) },
	}
}

func erasing(name string, unit int, fresh []byte) op {
	return op{
		name:  name,
		run:   func(v *vault.Vault) error { return v.Erase(unit, fresh) },
		plain: func(m *plainVault, d *plainDisk) []step { return m.erase(d, unit, fresh) },
	}
}

// do does it, and tells where that isn't as it should be.
func (x *pair) do(t *testing.T, ops ...op) {
	t.Helper()
	for _, o := range ops {
		made := x.p.Steps()
		steps := o.plain(x.m, x.d)
		if err := o.run(x.v); err != nil {
			t.Fatalf("%s: %v", o.name, err)
		}
		if n := x.p.Steps() - made; n != len(steps) {
			t.Fatalf("%s made %d steps, want %d", o.name, n, len(steps))
		}
		x.d.do(steps...)
		wantDisk(t, x.p, x.d)
		if x.v.Head() != x.m.head {
			t.Fatalf("%s: head %x, want %x", o.name, x.v.Head(), x.m.head)
		}
	}
}

// texts is all that a tenant's callers read.
type texts struct {
	blocks [2][16]api.Cell
	notes  [2]api.Cell
}

// with is the texts behind a commit.
func (x texts) with(lines []api.Line, notes []api.Put) texts {
	for _, l := range lines {
		x.blocks[l.Unit][l.Block] = l.Cell
	}
	for _, n := range notes {
		x.notes[n.At] = n.Cell
	}
	return x
}

// without is the texts behind an erasure.
func (x texts) without(unit int) texts {
	x.blocks[unit] = [16]api.Cell{}
	return x
}

// readAll is all that a vault reads; nothing is refused.
func readAll(t *testing.T, v *vault.Vault) (x texts) {
	t.Helper()
	for unit := range 2 {
		for block := range 16 {
			c, err := v.Read(unit, block)
			if err != nil {
				t.Fatalf("Read(%d, %d): %v", unit, block, err)
			}
			x.blocks[unit][block] = c
		}
		c, err := v.Note(unit)
		if err != nil {
			t.Fatalf("Note(%d): %v", unit, err)
		}
		x.notes[unit] = c
	}
	return x
}

// wantTexts tells where a vault doesn't read these.
func wantTexts(t *testing.T, v *vault.Vault, want texts) {
	t.Helper()
	if got := readAll(t, v); got != want {
		t.Fatalf("read %x, want %x", got, want)
	}
}

// wantReads tells where a vault reads otherwise than the disk says.
func (x *pair) wantReads(t *testing.T) {
	t.Helper()
	for unit := range 2 {
		for block := range 16 {
			want, refused := x.m.read(x.d, unit, block)
			c, err := x.v.Read(unit, block)
			if c != want || refused && err != api.ErrTamper || !refused && err != nil {
				t.Fatalf("Read(%d, %d): %x, %v, want %x, refused %v", unit, block, c, err, want, refused)
			}
		}
		if c, err := x.v.Note(unit); c != x.m.aside[2+unit] || err != nil {
			t.Fatalf("Note(%d): %x, %v", unit, c, err)
		}
	}
}

func line(r *rand.Rand, unit, block int) api.Line {
	return api.Line{Unit: unit, Block: block, Cell: anyCell(r), Dirty: r.IntN(2) == 0}
}

// linesOf is lines of these blocks of a unit.
func linesOf(r *rand.Rand, unit int, blocks ...int) []api.Line {
	var lines []api.Line
	for _, b := range blocks {
		lines = append(lines, line(r, unit, b))
	}
	return lines
}

// allLines is lines of all blocks of both units.
func allLines(r *rand.Rand) []api.Line {
	var lines []api.Line
	for i := range 32 {
		lines = append(lines, line(r, i/16, i%16))
	}
	return lines
}

// P12.1: the chapter's examples.
func TestExamples(t *testing.T) {
	p, err := platter.New(117, 1)
	if err != nil {
		t.Fatal(err)
	}
	count := func(want int) {
		t.Helper()
		if n, err := p.Counter(0); n != want || err != nil {
			t.Errorf("counter %d, %v, want %d", n, err, want)
		}
	}
	open := func() *vault.Vault {
		t.Helper()
		v, err := vault.Open(p, 0, 0, tenantKey())
		if err != nil {
			t.Fatal(err)
		}
		return v
	}
	if err := vault.Format(p, 0, 0, tenantKey(), ramp(0, 128)); err != nil {
		t.Fatal(err)
	}
	count(1)
	v := open()
	count(3)
	block := []api.Line{{Block: 3, Cell: api.Cell{1}}}
	if err := v.Commit(block, nil); err != nil {
		t.Fatal(err)
	}
	count(4)
	// The entry has a block, four sectors of the tree and the head: 8 sectors of the log and its flush are ahead.
	p.Crash()
	for cut, ahead := 9, 6; cut < 17; cut++ {
		v = open()
		count(ahead)
		if err := p.Arm(cut); err != nil {
			t.Fatal(err)
		}
		if err := v.Commit([]api.Line{{Block: 3, Cell: api.Cell{byte(cut)}}}, nil); err != api.ErrDown {
			t.Fatalf("cut at %d: %v", cut, err)
		}
		p.Crash()
		v = open()
		count(ahead + 3)
		if c, err := v.Read(0, 3); c != (api.Cell{byte(cut)}) || err != nil {
			t.Fatalf("cut at %d: %x, %v", cut, c, err)
		}
		ahead += 5
	}
}

// P12.1: how many sectors a tenant has.
func TestSize(t *testing.T) {
	if vault.Size() != 117 {
		t.Error(vault.Size())
	}
}

// What TestSectorsWrittenOut holds the disk against.
const (
	writtenRest  = "da20f1117c633bd2265692e686f1e599f15c94d5ab0139f0"
	writtenTag   = "303fd9dac3e3fa678402f9ee040d70b647294b5517187b6585cb1d6d50fb229e"
	writtenSlot0 = "00b54b66ad9b945464d91e1238fe2145a20e185a5f47a0cd584961a3c893c177c3f32e181075ef1304b3ffbee56f7a7fc14f94beba1a149bcc7b5fed56ed7ffffb8406c7800eb169"
	writtenSlot1 = "4309b388b97a2108be0f4769a5c4cd4298d079cd1cd22751dd9e50e75b7ae51d6bf0320afbe438dde93d120a8e7e0837313a54f369cdee5c81f4c3fffa988e55c1182a1778eda2e6"
	writtenRoot  = "1833428a644ae45d0df4c0f309e24478733d56db93a46ba8813c15f2470e7289"
	writtenBlock = "4ffff804b0ab1af3853f9a8229f8c4a203e2dc01153745dea0b50dc8adb4c9862f6d82999abf90ec5b1e35b643320d182354f7deac10c9e03cb30b02db0b7a2df24b66ddfa6cb9be70a8cc5e73572ff29b083dc436a3d5458cd3fc02d47f55d190a0d4b39be651f36f47faf558caab2fb00adb28eab153bb7ca279d052e67b45"
	writtenLeaf  = "c0ab58b035a9f4f00e5ae472afc0c7fe239add47b4add6bb6229a88e9f8f6f2b"
	writtenLog   = "8a4ca8f4a5e899c305db81f8f9af1b52a159bf4e58117af5ed478284acf742e0"
)

// P12.1: what a Format and starts leave, written out as digits, which were reckoned elsewhere.
func TestSectorsWrittenOut(t *testing.T) {
	x := &pair{}
	x.p, _ = platter.New(117, 1)
	if err := vault.Format(x.p, 0, 0, ramp(0, 32), ramp(0x40, 128)); err != nil {
		t.Fatal(err)
	}
	want := func(at, from, many int, digits string) {
		t.Helper()
		c, err := x.p.Read(at)
		if got := hex.EncodeToString(c[from : from+many]); got != digits || err != nil {
			t.Errorf("sector %d from %d on: %s, %v, want %s", at, from, got, err, digits)
		}
	}
	want(0, 0, 8, "0000000000000001")
	want(0, 8, 64, hex.EncodeToString(make([]byte, 64)))
	want(0, 72, 24, writtenRest)
	want(0, 96, 32, writtenTag)
	want(1, 0, 72, writtenSlot0)
	want(1, 72, 56, hex.EncodeToString(make([]byte, 56)))
	want(2, 0, 72, writtenSlot1)
	for at := 3; at < 117; at++ {
		want(at, 0, 128, hex.EncodeToString(make([]byte, 128)))
	}
	v, err := vault.Open(x.p, 0, 0, ramp(0, 32))
	if err != nil {
		t.Fatal(err)
	}
	if err := v.Commit([]api.Line{{Unit: 1, Block: 2, Cell: api.Cell(ramp(0, 128))}}, nil); err != nil {
		t.Fatal(err)
	}
	want(0, 0, 8, "0000000000000004")
	want(0, 40, 32, writtenRoot)
	want(95, 0, 128, writtenBlock)
	want(113, 64, 32, writtenLeaf)
	want(5, 0, 22, "00000000000000040006"+"0000"+"005f"+"006d"+"006e"+"006f"+"0071")
	want(6, 0, 32, writtenLog)
}

// someKeys are keys of many lengths, and what a tag takes for the same key isn't among them twice.
func someKeys(r *rand.Rand) [][]byte {
	var keys [][]byte
	for _, n := range []int{0, 1, 16, 31, 32, 33, 63, 64, 65, 200} {
		keys = append(keys, anyBytes(r, n))
	}
	return append(keys, nil)
}

func anyHead(r *rand.Rand) api.Head {
	return api.Head{Count: int(r.Uint64() >> (1 + r.IntN(63))), Roots: [2]api.Sum{anySum(r), anySum(r)}, Rest: [24]byte(anyBytes(r, 24))}
}

// wantHead tells where a head isn't made a sector and taken as it should be.
func wantHead(t *testing.T, key []byte, h api.Head) api.Cell {
	t.Helper()
	c, err := vault.HeadCell(key, h)
	if want := plainHead(key, h); c != want || err != nil {
		t.Fatalf("HeadCell of %x: %x, %v, want %x", h, c, err, want)
	}
	if got, ok := vault.TakeHead(key, c); got != h || !ok {
		t.Fatalf("TakeHead: %x, %v, want %x", got, ok, h)
	}
	return c
}

// wantNoHead tells where a sector is taken for a head.
func wantNoHead(t *testing.T, key []byte, c api.Cell) {
	t.Helper()
	if got, ok := vault.TakeHead(key, c); got != (api.Head{}) || ok {
		t.Fatalf("TakeHead of %x: %x, %v", c, got, ok)
	}
}

// P12.1: HeadCell and TakeHead, with keys of any length, of any counts, with another key, with each byte changed.
func TestHeads(t *testing.T) {
	r := dice()
	keys := someKeys(r)
	for i, key := range keys {
		for _, count := range []int{0, 1, 2, 255, 256, 1 << 62, 1<<62 + 1, math.MaxInt} {
			h := anyHead(r)
			h.Count = count
			c := wantHead(t, key, h)
			// A key with noughts behind it has the same tags, and the first one has no bytes.
			if i > 0 && i < len(keys)-1 {
				wantNoHead(t, keys[i-1], c)
			}
		}
		wantHead(t, key, api.Head{})
	}
	key := keys[4]
	c := wantHead(t, key, anyHead(r))
	for at := range c {
		for _, mask := range []byte{1, 0x80, 0xff} {
			other := c
			other[at] ^= mask
			wantNoHead(t, key, other)
		}
	}
	wantNoHead(t, key, api.Cell{})
	wantNoHead(t, nil, api.Cell{})
	for range 100 {
		wantHead(t, key, anyHead(r))
		wantNoHead(t, key, anyCell(r))
	}
}

// P12.1: a count below 0 is no head's, also under its right tag.
func TestHeadsBelowNought(t *testing.T) {
	r := dice()
	for _, count := range []int{-1, -2, -256, -1 << 62, math.MinInt + 1, math.MinInt} {
		h := anyHead(r)
		h.Count = count
		if c, err := vault.HeadCell(tenantKey(), h); c != (api.Cell{}) || err != api.ErrForm {
			t.Errorf("HeadCell of %d: %x, %v", count, c, err)
		}
		wantNoHead(t, tenantKey(), plainHead(tenantKey(), h))
	}
}

// P12.1: a unit's keys are made of 64 bytes.
func TestKeysOf(t *testing.T) {
	b := ramp(0, 64)
	k, err := vault.KeysOf(b)
	if err != nil || !bytes.Equal(k.Data[:], b[:32]) || !bytes.Equal(k.Mark[:], b[32:]) {
		t.Errorf("%x, %v", k, err)
	}
	for _, n := range []int{0, 1, 31, 32, 33, 63, 65, 72, 96, 128, 1 << 16} {
		if k, err := vault.KeysOf(make([]byte, n, n+64)); k != (api.Keys{}) || err != api.ErrKey {
			t.Errorf("%d bytes: %x, %v", n, k, err)
		}
	}
	if k, err := vault.KeysOf(nil); k != (api.Keys{}) || err != api.ErrKey {
		t.Errorf("nil: %x, %v", k, err)
	}
}

// keysOf is a unit's keys.
func keysOf(t *testing.T, b []byte) api.Keys {
	t.Helper()
	k, err := vault.KeysOf(b)
	if err != nil {
		t.Fatal(err)
	}
	return k
}

// wantNoSlot tells where a sector is taken for a slot.
func wantNoSlot(t *testing.T, key []byte, c api.Cell) {
	t.Helper()
	if got, ok := vault.TakeSlot(key, c); got != (api.Keys{}) || ok {
		t.Fatalf("TakeSlot of %x: %x, %v", c, got, ok)
	}
}

// P12.1: Slot and TakeSlot, with another key, with each byte changed, also of the noughts.
func TestSlots(t *testing.T) {
	r := dice()
	for range 10 {
		key, b := anyBytes(r, 32), anyBytes(r, 64)
		c, err := vault.Slot(key, keysOf(t, b))
		if want := plainSlot(key, b); c != want || err != nil {
			t.Fatalf("%x, %v, want %x", c, err, want)
		}
		if k, ok := vault.TakeSlot(key, c); k != keysOf(t, b) || !ok {
			t.Fatalf("%x, %v, want %x", k, ok, b)
		}
		wantNoSlot(t, anyBytes(r, 32), c)
		wantNoSlot(t, key[:16], c)
	}
	key := anyBytes(r, 32)
	c := plainSlot(key, make([]byte, 64))
	if k, ok := vault.TakeSlot(key, c); k != (api.Keys{}) || !ok {
		t.Errorf("keys of noughts: %x, %v", k, ok)
	}
	for at := range c {
		other := c
		other[at] ^= 1 << r.IntN(8)
		wantNoSlot(t, key, other)
	}
	wantNoSlot(t, key, api.Cell{})
}

// P12.1: keys with which nothing is wrapped.
func TestSlotsWithoutAGoodKey(t *testing.T) {
	good := plainSlot(make([]byte, 32), ramp(0, 64))
	for _, n := range []int{0, 1, 15, 17, 24, 31, 33, 48, 64, 1 << 16} {
		key := make([]byte, n, n+32)
		if c, err := vault.Slot(key, api.Keys{}); c != (api.Cell{}) || err != api.ErrKey {
			t.Errorf("%d bytes: %x, %v", n, c, err)
		}
		wantNoSlot(t, key, good)
	}
	if c, err := vault.Slot(nil, api.Keys{}); c != (api.Cell{}) || err != api.ErrKey {
		t.Errorf("nil: %x, %v", c, err)
	}
	wantNoSlot(t, nil, good)
}

// P12.1: a Format of any part of any disk, whatever stood there and wherever the counter is: its steps, its sectors, and nobody else's.
func TestFormat(t *testing.T) {
	r := dice()
	for _, count := range []int{0, 1, 5, 255, 1 << 40} {
		d := &plainDisk{counter: count}
		for at := range d.sure {
			d.sure[at] = anyCell(r)
		}
		d.reads = d.sure
		p, fresh := lay(t, d), anyBytes(r, 128)
		if err := vault.Format(p, counter, base, tenantKey(), fresh); err != nil {
			t.Fatal(err)
		}
		steps := plainFormat(tenantKey(), count, fresh)
		if n := p.Steps() - 1; n != len(steps) {
			t.Errorf("%d steps, want %d", n, len(steps))
		}
		d.do(steps...)
		wantDisk(t, p, d)
	}
}

// place is a part of a disk, and whether there is such a one.
type place struct {
	counter, base int
	good          bool
}

// places are parts at the ends of a disk of 119 sectors and two counters, just outside, and far off.
func places() []place {
	all := []place{{0, 0, true}, {1, 0, true}, {0, 1, true}, {0, 2, true}, {1, 2, true}}
	for _, at := range []int{-1, 3, 4, 118, 119, 120, -117, -119, math.MaxInt, math.MinInt, math.MaxInt - 116, math.MaxInt - 117, math.MinInt + 117} {
		all = append(all, place{0, at, false})
	}
	for _, i := range []int{-1, 2, 3, 16, math.MaxInt, math.MinInt} {
		all = append(all, place{i, 0, false})
	}
	return append(all, place{-1, -1, false}, place{2, 3, false})
}

// P12.1: a base and a counter at the disk's ends, and outside of it.
func TestPlaces(t *testing.T) {
	for _, at := range places() {
		p, _ := platter.New(119, 2)
		want := error(nil)
		if !at.good {
			want = api.ErrRange
		}
		if err := vault.Format(p, at.counter, at.base, tenantKey(), ramp(0, 128)); err != want {
			t.Errorf("Format of %v: %v, want %v", at, err, want)
		}
		made := p.Steps()
		if made > 0 != at.good {
			t.Errorf("Format of %v: %d steps", at, made)
		}
		v, err := vault.Open(p, at.counter, at.base, tenantKey())
		if err != want || (v != nil) != at.good || p.Steps() > made != at.good {
			t.Errorf("Open of %v: %v, want %v", at, err, want)
		}
	}
	for _, n := range []int{1, 116} {
		p, _ := platter.New(n, 1)
		if err := vault.Format(p, 0, 0, tenantKey(), ramp(0, 128)); err != api.ErrRange {
			t.Errorf("Format of a disk of %d: %v", n, err)
		}
		if v, err := vault.Open(p, 0, 0, tenantKey()); v != nil || err != api.ErrRange {
			t.Errorf("Open of a disk of %d: %v", n, err)
		}
	}
	if err := vault.Format(nil, 0, 0, tenantKey(), ramp(0, 128)); err != api.ErrRange {
		t.Errorf("Format without a disk: %v", err)
	}
	if v, err := vault.Open(nil, 0, 0, tenantKey()); v != nil || err != api.ErrRange {
		t.Errorf("Open without a disk: %v", err)
	}
}

// without is a good disk whose power is gone, and the sectors that it is to have.
func without(t *testing.T, d *plainDisk) *platter.Platter {
	t.Helper()
	p := lay(t, d)
	if err := p.Arm(0); err != nil {
		t.Fatal(err)
	}
	if err := p.Flush(0, 0); err != api.ErrDown {
		t.Fatal(err)
	}
	return p
}

// P12.1: keys and fresh bytes of a wrong length; what is named first is answered, and nothing is changed.
func TestKeysOfWrongLengths(t *testing.T) {
	d := formatted(0)
	row := func(n int) []byte { return make([]byte, n, n+200) }
	wrong := [][2][]byte{{nil, row(128)}, {{}, row(128)}, {row(32), nil}, {row(32), {}}, {nil, nil}}
	for _, n := range []int{1, 16, 31, 33, 64, 128} {
		wrong = append(wrong, [2][]byte{row(n), row(128)}, [2][]byte{row(n), row(127)})
	}
	for _, n := range []int{32, 64, 127, 129, 256} {
		wrong = append(wrong, [2][]byte{row(32), row(n)})
	}
	for _, keys := range wrong {
		for _, p := range []*platter.Platter{lay(t, d), without(t, d)} {
			made := p.Steps()
			if err := vault.Format(p, counter, base, keys[0], keys[1]); err != api.ErrKey {
				t.Errorf("Format with %d and %d bytes: %v", len(keys[0]), len(keys[1]), err)
			}
			if err := vault.Format(p, counter, base+behind+1, keys[0], keys[1]); err != api.ErrRange {
				t.Errorf("Format outside of the disk, with %d and %d bytes: %v", len(keys[0]), len(keys[1]), err)
			}
			if len(keys[0]) == 32 {
				continue
			}
			if v, err := vault.Open(p, counter, base, keys[0]); v != nil || err != api.ErrKey {
				t.Errorf("Open with %d bytes: %v", len(keys[0]), err)
			}
			if v, err := vault.Open(p, -1, base, keys[0]); v != nil || err != api.ErrRange {
				t.Errorf("Open without a counter, with %d bytes: %v", len(keys[0]), err)
			}
			if p.Steps() != made {
				t.Errorf("%d steps were made", p.Steps()-made)
			}
			p.Crash()
			wantDisk(t, p, d)
		}
	}
}

// P12.1: of a counter beyond which there is none no head can be made: nothing is changed.
func TestFormatAtTheLastCount(t *testing.T) {
	d := &plainDisk{counter: math.MaxInt}
	p := lay(t, d)
	if err := vault.Format(p, counter, base, tenantKey(), ramp(0, 128)); err != api.ErrForm {
		t.Error(err)
	}
	wantDisk(t, p, d)
	d.counter--
	p = lay(t, d)
	if err := vault.Format(p, counter, base, tenantKey(), ramp(0, 128)); err != nil {
		t.Error(err)
	}
	d.do(plainFormat(tenantKey(), d.counter, ramp(0, 128))...)
	wantDisk(t, p, d)
}

// P12.1: the greatest counter with which a start is good is 2^62; its own commits go beyond.
func TestGreatCounts(t *testing.T) {
	for _, count := range []int{1<<62 - 4, 1<<62 - 3, 1<<62 - 1} {
		x := started(t, formatted(count))
		x.do(t, committing("a commit", []api.Line{{Block: 1, Cell: api.Cell{1}}}, nil))
		x.wantReads(t)
		x.start(t)
		if good := count == 1<<62-4; (x.v != nil) != good {
			t.Errorf("the second start from %d on", count)
		}
	}
	for _, count := range []int{1 << 62, 1<<62 + 1, math.MaxInt - 1} {
		p := lay(t, formatted(count))
		if v, err := vault.Open(p, counter, base, tenantKey()); v != nil || err != api.ErrTamper {
			t.Errorf("a start from %d on: %v", count, err)
		}
	}
}

// P12.1: any commits and erasures and starts, in any order: each step, each sector, each reading.
func TestAnyCalls(t *testing.T) {
	r := dice()
	x := started(t, formatted(7))
	var all texts
	for range 60 {
		switch r.IntN(8) {
		case 0:
			unit := r.IntN(2)
			x.do(t, erasing("an erasure", unit, anyBytes(r, 64)))
			all = all.without(unit)
		case 1:
			x.start(t)
		default:
			var lines []api.Line
			for range r.IntN(6) {
				lines = append(lines, line(r, r.IntN(2), r.IntN(16)))
			}
			var notes []api.Put
			for range r.IntN(3) {
				notes = append(notes, api.Put{At: r.IntN(2), Cell: anyCell(r)})
			}
			x.do(t, committing("a commit", lines, notes))
			all = all.with(lines, notes)
		}
		wantTexts(t, x.v, all)
	}
}

// P12.1: each block of both units alone, written, read, written again; each has its own sectors.
func TestEachBlock(t *testing.T) {
	r := dice()
	x := started(t, formatted(0))
	var all texts
	for range 2 {
		for unit := range 2 {
			for block := range 16 {
				lines := linesOf(r, unit, block)
				x.do(t, committing("a block", lines, nil))
				all = all.with(lines, nil)
				if c, err := x.v.Read(unit, block); c != lines[0].Cell || err != nil {
					t.Fatalf("%d, %d: %x, %v", unit, block, c, err)
				}
			}
		}
		wantTexts(t, x.v, all)
		x.start(t)
	}
	wantTexts(t, x.v, all)
}

// P12.1: a block of noughts that was written is one that was written; the same text again is the same sector.
func TestLikeTexts(t *testing.T) {
	x := started(t, formatted(0))
	noughts := []api.Line{{Unit: 1, Block: 4}}
	x.do(t, committing("noughts", noughts, nil))
	if x.d.reads[69+24+4] == (api.Cell{}) || x.d.reads[treeOf(1)] == (api.Cell{}) {
		t.Error("noughts aren't hidden")
	}
	wantTexts(t, x.v, texts{})
	was := x.d.reads
	x.do(t, committing("noughts again", noughts, nil))
	if !slices.Equal(was[69:], x.d.reads[69:]) {
		t.Error("the same text is another sector")
	}
	// Nothing of the tree changes, so the entry has the block and the head alone.
	if first := x.d.reads[5]; first[9] != 2 {
		t.Errorf("%d puts", first[9])
	}
	same := bytes.Repeat([]byte{9}, 128)
	var lines []api.Line
	for i := range 32 {
		lines = append(lines, api.Line{Unit: i / 16, Block: i % 16, Cell: api.Cell(same)})
	}
	x.do(t, committing("like blocks", lines, nil))
	seen := map[api.Cell]bool{}
	for unit := range 2 {
		for block := range 16 {
			seen[x.d.reads[69+24*unit+block]] = true
		}
	}
	if len(seen) != 32 {
		t.Errorf("like blocks are hidden as %d sectors", len(seen))
	}
}

// P12.1: commits without anything, with notes alone, and one with all that a tenant has: 51 puts.
func TestLeastAndGreatestCommits(t *testing.T) {
	r := dice()
	x := started(t, formatted(0))
	x.do(t, committing("nothing", nil, nil), committing("empty lists", []api.Line{}, []api.Put{}))
	wantTexts(t, x.v, texts{})
	notes := []api.Put{{At: 1, Cell: anyCell(r)}, {At: 0, Cell: anyCell(r)}}
	x.do(t, committing("notes", nil, notes))
	all := texts{}.with(nil, notes)
	wantTexts(t, x.v, all)
	lines := allLines(r)
	r.Shuffle(len(lines), func(i, k int) { lines[i], lines[k] = lines[k], lines[i] })
	x.do(t, committing("all", lines, notes))
	if first := x.d.reads[5]; first[9] != 51 {
		t.Errorf("%d puts", first[9])
	}
	all = all.with(lines, nil)
	wantTexts(t, x.v, all)
	x.start(t)
	wantTexts(t, x.v, all)
}

// P12.1: of one block, and of one unit's note, the last one counts, however many there are: a tenant's puts are never as many as 57.
func TestManyOfOneBlock(t *testing.T) {
	r := dice()
	x := started(t, formatted(0))
	var all texts
	for _, many := range []int{2, 55, 56, 57, 58, 300} {
		var lines []api.Line
		var notes []api.Put
		for range many {
			lines = append(lines, line(r, r.IntN(2), 2+r.IntN(2)))
			notes = append(notes, api.Put{At: r.IntN(2), Cell: anyCell(r)})
		}
		x.do(t, committing("many", lines, notes))
		all = all.with(lines, notes)
		wantTexts(t, x.v, all)
	}
	lines := slices.Concat(allLines(r), allLines(r), allLines(r))
	x.do(t, committing("all, three times", lines, nil))
	wantTexts(t, x.v, all.with(lines, nil))
	one := make([]api.Line, 1<<17)
	for i := range one {
		one[i] = api.Line{Block: 9, Cell: api.Cell{byte(i), byte(i >> 8)}}
	}
	x.do(t, committing("one, very often", one, nil))
	wantTexts(t, x.v, all.with(lines, nil).with(one, nil))
}

// P12.1: Dirty of a line doesn't matter.
func TestDirtyDoesNotMatter(t *testing.T) {
	x, y := started(t, formatted(0)), started(t, formatted(0))
	l := api.Line{Unit: 1, Block: 15, Cell: api.Cell{5}}
	x.do(t, committing("clean", []api.Line{l}, nil))
	l.Dirty = true
	y.do(t, committing("dirty", []api.Line{l}, nil))
	if x.d.reads != y.d.reads {
		t.Error("they are not the same")
	}
}

// P12.1: an erasure puts another slot and noughts for the unit's tree; the other unit, and both notes, are as they were, also for a later start.
func TestErasures(t *testing.T) {
	r := dice()
	for unit := range 2 {
		x := started(t, formatted(0))
		lines, notes := allLines(r), []api.Put{{At: 0, Cell: anyCell(r)}, {At: 1, Cell: anyCell(r)}}
		x.do(t, committing("all", lines, notes))
		all := texts{}.with(lines, notes).without(unit)
		was := x.d.reads
		for range 2 {
			x.do(t, erasing("an erasure", unit, anyBytes(r, 64)))
			wantTexts(t, x.v, all)
			now := x.d.reads
			if now[1+unit] == was[1+unit] || now[2-unit] != was[2-unit] || now[3] != was[3] || now[4] != was[4] {
				t.Error("the slots and notes aren't as they should be")
			}
			if !slices.Equal(now[69+24*(1-unit):][:24], was[69+24*(1-unit):][:24]) {
				t.Error("the other unit isn't as it was")
			}
		}
		x.start(t)
		wantTexts(t, x.v, all)
		again := linesOf(r, unit, 0, 7, 15)
		x.do(t, committing("behind it", again, nil))
		wantTexts(t, x.v, all.with(again, nil))
		x.start(t)
		wantTexts(t, x.v, all.with(again, nil))
	}
}

// farOff are numbers that neither a unit nor a block has.
func farOff(last int) []int {
	return []int{-1, last + 1, last + 2, -2, 31, 32, 116, 117, 256, 1 << 32, -1 << 32, math.MaxInt, math.MinInt}
}

// P12.1: units and blocks that there aren't; nothing is changed.
func TestNoSuchUnitOrBlock(t *testing.T) {
	r := dice()
	x := started(t, formatted(0))
	lines, notes := linesOf(r, 0, 0, 1), []api.Put{{At: 0, Cell: anyCell(r)}}
	x.do(t, committing("a commit", lines, notes))
	all := texts{}.with(lines, notes)
	made := x.p.Steps()
	refused := func(what string, n int, c api.Cell, err error) {
		t.Helper()
		if c != (api.Cell{}) || err != api.ErrRange {
			t.Errorf("%s of %d: %x, %v", what, n, c, err)
		}
	}
	for _, n := range farOff(1) {
		c, err := x.v.Read(n, 0)
		refused("Read of unit", n, c, err)
		c, err = x.v.Read(n, -1)
		refused("Read of no block and of unit", n, c, err)
		c, err = x.v.Note(n)
		refused("Note", n, c, err)
		refused("Erase", n, api.Cell{}, x.v.Erase(n, ramp(0, 64)))
		refused("Erase without keys", n, api.Cell{}, x.v.Erase(n, nil))
		refused("Commit of a note", n, api.Cell{}, x.v.Commit(nil, []api.Put{{At: n}}))
		refused("Commit of a good line and a note", n, api.Cell{}, x.v.Commit(linesOf(r, 0, 0), []api.Put{{At: 0, Cell: anyCell(r)}, {At: n}}))
		refused("Commit of a line", n, api.Cell{}, x.v.Commit([]api.Line{{Unit: n}}, nil))
		refused("Commit of lines", n, api.Cell{}, x.v.Commit(append(linesOf(r, 0, 0), api.Line{Unit: n}), notes))
	}
	for _, n := range farOff(15) {
		c, err := x.v.Read(1, n)
		refused("Read of block", n, c, err)
		refused("Commit of a block", n, api.Cell{}, x.v.Commit([]api.Line{{Block: n}}, nil))
		refused("Commit of a good line and a block", n, api.Cell{}, x.v.Commit(append(linesOf(r, 1, 0), api.Line{Unit: 1, Block: n}), notes))
		refused("Commit of 300 lines and a block", n, api.Cell{}, x.v.Commit(append(make([]api.Line, 300), api.Line{Unit: 1, Block: n}), nil))
	}
	if x.p.Steps() != made {
		t.Errorf("%d steps were made", x.p.Steps()-made)
	}
	wantDisk(t, x.p, x.d)
	wantTexts(t, x.v, all)
	x.start(t)
	wantTexts(t, x.v, all)
}

// P12.1: a unit's keys have 64 bytes; nothing is changed.
func TestEraseWithoutGoodKeys(t *testing.T) {
	r := dice()
	x := started(t, formatted(0))
	lines := linesOf(r, 1, 3)
	x.do(t, committing("a commit", lines, nil))
	for _, n := range []int{0, 1, 31, 32, 33, 63, 65, 127, 128, 1 << 16} {
		if err := x.v.Erase(1, make([]byte, n, n+64)); err != api.ErrKey {
			t.Errorf("%d bytes: %v", n, err)
		}
	}
	if err := x.v.Erase(1, nil); err != api.ErrKey {
		t.Errorf("nil: %v", err)
	}
	wantDisk(t, x.p, x.d)
	wantTexts(t, x.v, texts{}.with(lines, nil))
}

// P12.1: a nil vault, every call, at all arguments.
func TestNilVault(t *testing.T) {
	wantDown(t, nil, api.Head{})
}

// P12.1: a disk without power.
func TestWithoutPower(t *testing.T) {
	p := without(t, formatted(0))
	if err := vault.Format(p, counter, base, tenantKey(), ramp(0, 128)); err != api.ErrDown {
		t.Errorf("Format: %v", err)
	}
	if v, err := vault.Open(p, counter, base, tenantKey()); v != nil || err != api.ErrDown {
		t.Errorf("Open: %v", err)
	}
	// Also where the start would be broken: without power nobody can tell.
	if v, err := vault.Open(p, counter, base, make([]byte, 32)); v != nil || err != api.ErrDown {
		t.Errorf("Open with another key: %v", err)
	}
}

// downBy are the calls that may answer ErrDown.
func downBy() map[string]func(v *vault.Vault) error {
	return map[string]func(v *vault.Vault) error{
		"Read":              func(v *vault.Vault) error { _, err := v.Read(0, 0); return err },
		"Commit":            func(v *vault.Vault) error { return v.Commit([]api.Line{{}}, nil) },
		"Commit of nothing": func(v *vault.Vault) error { return v.Commit(nil, nil) },
		"Erase":             func(v *vault.Vault) error { return v.Erase(0, ramp(0, 64)) },
	}
}

// wantDown tells where a vault answers anything but ErrDown, or another head, at good arguments and at such as are refused else.
func wantDown(t *testing.T, v *vault.Vault, head api.Head) {
	t.Helper()
	down := func(c api.Cell, err error, call string, args ...int) {
		t.Helper()
		if c != (api.Cell{}) || err != api.ErrDown {
			t.Errorf("%s%v: %x, %v, want ErrDown alone", call, args, c, err)
		}
	}
	numbers := []int{0, 1, 2, 15, 16, -1, math.MaxInt, math.MinInt}
	for _, unit := range numbers {
		for _, block := range numbers {
			c, err := v.Read(unit, block)
			down(c, err, "Read", unit, block)
			line := []api.Line{{Unit: unit, Block: block}}
			down(api.Cell{}, v.Commit(line, nil), "Commit", unit, block)
			down(api.Cell{}, v.Commit(line, []api.Put{{At: 1}}), "Commit, with a note", unit, block)
		}
		c, err := v.Note(unit)
		down(c, err, "Note", unit)
		down(api.Cell{}, v.Commit(nil, []api.Put{{At: unit}}), "Commit of a note", unit)
		down(api.Cell{}, v.Commit([]api.Line{{}}, []api.Put{{At: unit}}), "Commit of a note, with a line", unit)
		down(api.Cell{}, v.Erase(unit, nil), "Erase without keys", unit)
		for _, many := range []int{0, 63, 64, 65, 128} {
			down(api.Cell{}, v.Erase(unit, make([]byte, many)), "Erase", unit, many)
		}
	}
	down(api.Cell{}, v.Commit(nil, nil), "Commit of nothing")
	if h := v.Head(); h != head {
		t.Errorf("head %x, want %x", h, head)
	}
}

// P12.1: behind ErrDown a vault answers ErrDown, for good; a start isn't bound by it. What no call was told of doesn't count: the disk isn't asked for a note.
func TestBehindDown(t *testing.T) {
	for name, call := range downBy() {
		x := started(t, formatted(0))
		lines, notes := []api.Line{{Block: 0, Cell: api.Cell{3}}}, []api.Put{{At: 1, Cell: api.Cell{4}}}
		x.do(t, committing("a commit", lines, notes))
		if err := x.p.Arm(0); err != nil {
			t.Fatal(err)
		}
		if err := x.p.Flush(0, 0); err != api.ErrDown {
			t.Fatal(err)
		}
		if c, err := x.v.Note(1); c != (api.Cell{4}) || err != nil {
			t.Errorf("Note ahead of %s: %x, %v", name, c, err)
		}
		if err := call(x.v); err != api.ErrDown {
			t.Errorf("%s: %v", name, err)
		}
		head := x.m.head
		wantDown(t, x.v, head)
		x.p.Crash()
		made := x.p.Steps()
		wantDown(t, x.v, head)
		if x.p.Steps() != made {
			t.Errorf("%s: a vault behind ErrDown makes steps", name)
		}
		wantDisk(t, x.p, x.d)
		x.start(t)
		wantTexts(t, x.v, texts{}.with(lines, notes))
	}
}

// P12.1: a vault behind ErrDown, wherever within a call the power went, while the disk has none, and when it has it again. The head is that of the last commit all of whose steps were made: an erasure has more behind them.
func TestBehindDownAtEachStep(t *testing.T) {
	t.Parallel()
	for _, c := range crashCases(t, dice()) {
		t.Run(c.name, func(t *testing.T) {
			t.Parallel()
			x := started(t, c.from)
			ahead := x.m.head
			steps := c.plain(x.m, x.d)
			committed := slices.IndexFunc(steps, func(s step) bool { return s.kind == "flush" && s.n == 117 })
			behind := x.m.head
			for _, cut := range cuts(len(steps) - 1) {
				x := started(t, c.from)
				if err := x.p.Arm(cut); err != nil {
					t.Fatal(err)
				}
				if err := c.run(x.v); err != api.ErrDown {
					t.Fatalf("cut at %d: %v", cut, err)
				}
				head := ahead
				if cut > committed {
					head = behind
				}
				wantDown(t, x.v, head)
				x.p.Crash()
				made := x.p.Steps()
				wantDown(t, x.v, head)
				if x.p.Steps() != made {
					t.Errorf("cut at %d: a vault behind ErrDown makes steps", cut)
				}
			}
		})
	}
}

// P12.1: refused calls aren't ErrDown: behind them all goes on, also where the disk had no power meanwhile.
func TestBehindRefusedCalls(t *testing.T) {
	x := started(t, formatted(0))
	if err := x.p.Arm(0); err != nil {
		t.Fatal(err)
	}
	if err := x.p.Flush(0, 0); err != api.ErrDown {
		t.Fatal(err)
	}
	refused := func(want, err error, call string, args ...int) {
		t.Helper()
		if err != want {
			t.Errorf("%s%v: %v, want %v", call, args, err, want)
		}
	}
	for _, at := range [][2]int{{2, 0}, {-1, 0}, {0, 16}, {0, -1}} {
		_, err := x.v.Read(at[0], at[1])
		refused(api.ErrRange, err, "Read", at[:]...)
		refused(api.ErrRange, x.v.Commit([]api.Line{{Unit: at[0], Block: at[1]}}, nil), "Commit", at[:]...)
	}
	for _, unit := range []int{2, -1} {
		_, err := x.v.Note(unit)
		refused(api.ErrRange, err, "Note", unit)
		refused(api.ErrRange, x.v.Commit(nil, []api.Put{{At: unit}}), "Commit of a note", unit)
		refused(api.ErrRange, x.v.Erase(unit, nil), "Erase", unit)
	}
	refused(api.ErrKey, x.v.Erase(1, nil), "Erase without keys", 1)
	refused(api.ErrKey, x.v.Erase(1, make([]byte, 63)), "Erase with 63 bytes", 1)
	x.p.Crash()
	x.do(t, committing("a commit", []api.Line{{Block: 2, Cell: api.Cell{3}}}, nil))
	x.wantReads(t)
}

// P12.1: a counter that another start has raised since: the elder vault changes nothing any more.
func TestElderVault(t *testing.T) {
	x := started(t, formatted(0))
	x.do(t, committing("a commit", []api.Line{{Block: 2, Cell: api.Cell{3}}}, nil))
	elder := x.v
	x.start(t)
	if err := elder.Commit([]api.Line{{Block: 2, Cell: api.Cell{4}}}, nil); err != api.ErrRange {
		t.Errorf("Commit: %v", err)
	}
	if err := elder.Erase(0, ramp(0, 64)); err != api.ErrRange {
		t.Errorf("Erase: %v", err)
	}
	wantDisk(t, x.p, x.d)
	x.do(t, committing("a commit", []api.Line{{Block: 2, Cell: api.Cell{5}}}, nil))
	x.wantReads(t)
}

// P12.1: two tenants on one disk, at its ends, each with its own key and counter: neither's calls change what the other one reads.
func TestTwoTenants(t *testing.T) {
	r := dice()
	p, err := platter.New(2*117, 16)
	if err != nil {
		t.Fatal(err)
	}
	var vaults [2]*vault.Vault
	var all [2]texts
	keys := [2][]byte{anyBytes(r, 32), anyBytes(r, 32)}
	open := func(i int) {
		t.Helper()
		if vaults[i], err = vault.Open(p, 15*i, 117*i, keys[i]); err != nil {
			t.Fatal(err)
		}
	}
	for i := range 2 {
		if err := vault.Format(p, 15*i, 117*i, keys[i], anyBytes(r, 128)); err != nil {
			t.Fatal(err)
		}
		open(i)
	}
	for range 24 {
		i, unit := r.IntN(2), r.IntN(2)
		lines, notes := linesOf(r, unit, r.Perm(16)[:3]...), []api.Put{{At: unit, Cell: anyCell(r)}}
		switch r.IntN(4) {
		case 0:
			if err := vaults[i].Erase(unit, anyBytes(r, 64)); err != nil {
				t.Fatal(err)
			}
			all[i] = all[i].without(unit)
		case 1:
			open(i)
		default:
			if err := vaults[i].Commit(lines, notes); err != nil {
				t.Fatal(err)
			}
			all[i] = all[i].with(lines, notes)
		}
		for i := range 2 {
			wantTexts(t, vaults[i], all[i])
		}
	}
}

// P12.1: what the other one wrote is nobody's: a tenant's sectors laid at another tenant's place, under its counter, are refused with its key.
func TestAnotherTenantsSectors(t *testing.T) {
	x := started(t, formatted(0))
	x.do(t, committing("a commit", []api.Line{{Block: 1, Cell: api.Cell{1}}}, nil))
	p := lay(t, x.d)
	if v, err := vault.Open(p, counter, base, anyBytes(dice(), 32)); v != nil || err != api.ErrTamper {
		t.Error(err)
	}
	if v, err := vault.Open(p, counter+1, base, tenantKey()); v != nil || err != api.ErrTamper {
		t.Errorf("with another counter: %v", err)
	}
	for _, at := range []int{base - 1, base + 1} {
		if v, err := vault.Open(p, counter, at, tenantKey()); v != nil || err != api.ErrTamper {
			t.Errorf("from sector %d on: %v", at, err)
		}
	}
	wantDisk(t, p, x.d)
}

// roomy is a list with spare room that holds something else.
func roomy[T any](list []T, other T) []T {
	longer := append(slices.Clone(list), other, other, other)
	return longer[:len(list)]
}

// P12.1: what is handed in is neither changed, nor its spare room.
func TestNothingHandedInIsChanged(t *testing.T) {
	r := dice()
	d := &plainDisk{}
	p := lay(t, d)
	key, fresh, more := roomy(anyBytes(r, 32), 9), roomy(anyBytes(r, 128), 9), roomy(anyBytes(r, 64), 9)
	lines := roomy(slices.Concat(linesOf(r, 1, 5, 3, 5), linesOf(r, 0, 9)), line(r, 1, 1))
	notes := roomy([]api.Put{{At: 1, Cell: anyCell(r)}, {At: 0}, {At: 1}}, api.Put{At: 1})
	bytesAhead := [][]byte{slices.Clone(key[:35]), slices.Clone(fresh[:131]), slices.Clone(more[:67])}
	linesAhead, notesAhead := slices.Clone(lines[:7]), slices.Clone(notes[:6])
	if err := vault.Format(p, counter, base, key, fresh); err != nil {
		t.Fatal(err)
	}
	v, err := vault.Open(p, counter, base, key)
	if err != nil {
		t.Fatal(err)
	}
	e1, e2, e3 := v.Commit(lines, notes), v.Erase(1, more), v.Commit(lines, notes)
	if e1 != nil || e2 != nil || e3 != nil {
		t.Fatal(e1, e2, e3)
	}
	wantTexts(t, v, texts{}.with(lines, notes))
	c, err := vault.HeadCell(key, v.Head())
	if err != nil {
		t.Fatal(err)
	}
	vault.TakeHead(key, c)
	if c, err = vault.Slot(key, keysOf(t, more)); err != nil {
		t.Fatal(err)
	}
	vault.TakeSlot(key, c)
	if !bytes.Equal(key[:35], bytesAhead[0]) || !bytes.Equal(fresh[:131], bytesAhead[1]) || !bytes.Equal(more[:67], bytesAhead[2]) {
		t.Error("bytes were changed")
	}
	if !slices.Equal(lines[:7], linesAhead) || !slices.Equal(notes[:6], notesAhead) {
		t.Error("lines or notes were changed")
	}
}

// P12.1: what is handed in isn't kept: written over behind each call, it changes nothing.
func TestNothingHandedInIsKept(t *testing.T) {
	r := dice()
	x := &pair{p: lay(t, &plainDisk{}), d: &plainDisk{}}
	key, fresh, more := tenantKey(), ramp(0, 128), anyBytes(r, 64)
	if err := vault.Format(x.p, counter, base, key, fresh); err != nil {
		t.Fatal(err)
	}
	x.d.do(plainFormat(key, 0, fresh)...)
	clear(fresh)
	v, err := vault.Open(x.p, counter, base, key)
	if err != nil {
		t.Fatal(err)
	}
	var steps []step
	steps, x.m = plainStart(*x.d, tenantKey())
	x.d.do(steps...)
	x.v = v
	clear(key)
	lines, notes := linesOf(r, 0, 1, 2), []api.Put{{At: 0, Cell: anyCell(r)}}
	all := texts{}.with(lines, notes)
	x.do(t, committing("a commit", lines, notes))
	clear(lines)
	clear(notes)
	wantTexts(t, x.v, all)
	x.do(t, erasing("an erasure", 1, more))
	clear(more)
	again := linesOf(r, 1, 4)
	x.do(t, committing("a commit behind it", again, nil))
	wantTexts(t, x.v, all.with(again, nil))
	x.start(t)
	wantTexts(t, x.v, all.with(again, nil))
}

// P12.1: what comes out is the caller's: written over, it changes no later answer.
func TestAnswersAreNew(t *testing.T) {
	r := dice()
	x := started(t, formatted(0))
	lines, notes := linesOf(r, 0, 1), []api.Put{{At: 0, Cell: anyCell(r)}}
	x.do(t, committing("a commit", lines, notes))
	for range 2 {
		c, e1 := x.v.Read(0, 1)
		n, e2 := x.v.Note(0)
		h := x.v.Head()
		if c != lines[0].Cell || n != notes[0].Cell || h != x.m.head || e1 != nil || e2 != nil {
			t.Fatal(e1, e2)
		}
		clear(c[:])
		clear(n[:])
		clear(h.Roots[0][:])
		h.Rest[0]++
	}
	x.do(t, committing("another", linesOf(r, 1, 1), nil))
}

// P12.1: two vaults on two disks, by turns, with the same calls: what one of them is told doesn't hang on the other one.
func TestVaultsShareNothing(t *testing.T) {
	r := dice()
	x, y := started(t, formatted(0)), started(t, formatted(0))
	for i := range 6 {
		lines, fresh := linesOf(r, 0, i, i+3), anyBytes(r, 64)
		x.do(t, committing("a commit", lines, nil))
		if i == 3 {
			x.do(t, erasing("an erasure", 0, fresh))
			y.do(t, committing("a commit", lines, nil), erasing("an erasure", 0, fresh))
			continue
		}
		y.wantReads(t)
		y.do(t, committing("a commit", lines, nil))
	}
	if x.d.reads != y.d.reads {
		t.Error("they are not the same")
	}
}
