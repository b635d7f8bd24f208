package vault_test

import (
	"bytes"
	"crypto/aes"
	"crypto/hmac"
	"crypto/sha256"
	"encoding/binary"
	"math/rand/v2"
	"slices"

	"citadel/api"
)

// The chapter's words, made plainly, over other makes of the cipher, the digest and the tags, without a call of the program: what stands in each sector, and which steps are made.

func plainTag(key []byte, parts ...[]byte) api.Sum {
	h := hmac.New(sha256.New, key)
	h.Write(slices.Concat(parts...))
	return api.Sum(h.Sum(nil))
}

// plainDerived is a key of 32 bytes from a tenant's key.
func plainDerived(key []byte, label string) []byte {
	sum := plainTag(key, []byte{0, 0, 0, 1}, []byte(label), []byte{0})
	return sum[:]
}

func plainFill(b []byte) api.Cell {
	return api.Cell(append(slices.Clone(b), make([]byte, 128-len(b))...))
}

// plainHead is a head's sector, also of a count below 0.
func plainHead(key []byte, h api.Head) api.Cell {
	text := binary.BigEndian.AppendUint64(nil, uint64(h.Count))
	text = slices.Concat(text, h.Roots[0][:], h.Roots[1][:], h.Rest[:])
	sum := plainTag(key, text)
	return plainFill(append(text, sum[:]...))
}

// plainTakeHead is the head that a sector says, and whether its tag is right.
func plainTakeHead(key []byte, c api.Cell) (api.Head, bool) {
	h := api.Head{Count: int(binary.BigEndian.Uint64(c[:])), Roots: [2]api.Sum{api.Sum(c[8:40]), api.Sum(c[40:72])}, Rest: [24]byte(c[72:96])}
	sum := plainTag(key, c[:96])
	return h, h.Count >= 0 && bytes.Equal(sum[:], c[96:])
}

// plainRest is the beginning of the digest of the slots and notes.
func plainRest(aside [4]api.Cell) [24]byte {
	sum := sha256.Sum256(slices.Concat(aside[0][:], aside[1][:], aside[2][:], aside[3][:]))
	return [24]byte(sum[:24])
}

// plainWrapped is 64 bytes wrapped: 6 times 8 steps.
func plainWrapped(key, text []byte) []byte {
	other, err := aes.NewCipher(key)
	if err != nil {
		panic(err)
	}
	a, ring := uint64(0xa6a6a6a6a6a6a6a6), slices.Clone(text)
	for step := 1; step <= 48; step++ {
		k := append(binary.BigEndian.AppendUint64(nil, a), ring[:8]...)
		other.Encrypt(k, k)
		a = binary.BigEndian.Uint64(k) ^ uint64(step)
		ring = append(ring[8:], k[8:]...)
	}
	return append(binary.BigEndian.AppendUint64(nil, a), ring...)
}

// plainUnwrapped is the 64 bytes of 72, and whether they were wrapped with this key.
func plainUnwrapped(key, wrapped []byte) ([]byte, bool) {
	other, err := aes.NewCipher(key)
	if err != nil {
		panic(err)
	}
	a, ring := binary.BigEndian.Uint64(wrapped), slices.Clone(wrapped[8:])
	for step := 48; step > 0; step-- {
		k := append(binary.BigEndian.AppendUint64(nil, a^uint64(step)), ring[56:]...)
		other.Decrypt(k, k)
		a = binary.BigEndian.Uint64(k)
		ring = slices.Concat(k[8:], ring[:56])
	}
	return ring, a == 0xa6a6a6a6a6a6a6a6
}

func plainSlot(key, keys []byte) api.Cell { return plainFill(plainWrapped(key, keys)) }

// plainTakeSlot is a slot's 64 bytes, and whether it is one.
func plainTakeSlot(key []byte, c api.Cell) ([]byte, bool) {
	keys, ok := plainUnwrapped(key, c[:72])
	return keys, ok && bytes.Equal(c[72:], make([]byte, 56))
}

// plainTweaks is what is exclusive or each byte of a sector, ahead of the cipher and behind it.
func plainTweaks(key []byte, block int) (tweaks api.Cell) {
	other, err := aes.NewCipher(key)
	if err != nil {
		panic(err)
	}
	k := binary.LittleEndian.AppendUint64(nil, uint64(block))
	k = append(k, make([]byte, 8)...)
	other.Encrypt(k, k)
	for j := range 8 {
		copy(tweaks[16*j:], k)
		low, high := binary.LittleEndian.Uint64(k), binary.LittleEndian.Uint64(k[8:])
		binary.LittleEndian.PutUint64(k, low<<1^(high>>63)*0x87)
		binary.LittleEndian.PutUint64(k[8:], high<<1|low>>63)
	}
	return tweaks
}

// plainTurned is a block hidden or shown, with a unit's keys.
func plainTurned(keys []byte, block int, c api.Cell, hide bool) api.Cell {
	other, err := aes.NewCipher(keys[:16])
	if err != nil {
		panic(err)
	}
	tweaks := plainTweaks(keys[16:32], block)
	add := func() {
		for i := range c {
			c[i] ^= tweaks[i]
		}
	}
	add()
	for j := range 8 {
		k := c[16*j : 16*j+16]
		if hide {
			other.Encrypt(k, k)
		} else {
			other.Decrypt(k, k)
		}
	}
	add()
	return c
}

func plainLeaf(keys []byte, block int, hidden api.Cell) api.Sum {
	return plainTag(keys[32:], []byte{1, byte(block)}, hidden[:])
}

func plainNode(keys []byte, i int, left, right api.Sum) api.Sum {
	both := slices.Concat(left[:], right[:])
	if bytes.Equal(both, make([]byte, 64)) {
		return api.Sum{}
	}
	return plainTag(keys[32:], []byte{2, byte(i)}, both)
}

// plainTree is the eight sectors of the tree over leaves.
func plainTree(keys []byte, leaves [16]api.Sum) (cells [8]api.Cell) {
	var tags [32]api.Sum
	copy(tags[16:], leaves[:])
	for i := 15; i > 0; i-- {
		tags[i] = plainNode(keys, i, tags[2*i], tags[2*i+1])
	}
	for i, tag := range tags {
		copy(cells[i/4][32*(i%4):], tag[:])
	}
	return cells
}

// plainTagAt is a tag of a tree's sectors.
func plainTagAt(cells []api.Cell, i int) api.Sum { return api.Sum(cells[i/4][32*(i%4):][:32]) }

// plainLog is an entry's sectors.
func plainLog(key []byte, count int, puts []api.Put) []api.Cell {
	said := binary.BigEndian.AppendUint64(nil, uint64(count))
	said = binary.BigEndian.AppendUint16(said, uint16(len(puts)))
	var cells []api.Cell
	var texts []byte
	for _, p := range puts {
		said = binary.BigEndian.AppendUint16(said, uint16(p.At))
		cells = append(cells, p.Cell)
		texts = append(texts, p.Cell[:]...)
	}
	first := plainFill(said)
	sum := plainTag(key, first[:], texts)
	return append([]api.Cell{first, plainFill(sum[:])}, cells...)
}

// plainTakeLog is the entry that sectors begin with: -1, if that is none.
func plainTakeLog(key []byte, cells []api.Cell) (int, []api.Put) {
	first := cells[0]
	count, many := int(binary.BigEndian.Uint64(first[:])), int(binary.BigEndian.Uint16(first[8:]))
	if count < 0 || many > 56 {
		return -1, nil
	}
	var puts []api.Put
	for i := range many {
		puts = append(puts, api.Put{At: int(binary.BigEndian.Uint16(first[10+2*i:])), Cell: cells[2+i]})
	}
	if !slices.Equal(plainLog(key, count, puts), cells[:2+many]) {
		return -1, nil
	}
	return count, puts
}

// plainDisk is a tenant's sectors and its counter.
type plainDisk struct {
	sure, reads [117]api.Cell
	open        [117]bool
	counter     int
}

// step is one step of a disk, with numbers from the base on.
type step struct {
	kind string
	at   int
	cell api.Cell
	n    int // how many are flushed, or what the counter is raised to
}

// do makes steps.
func (d *plainDisk) do(steps ...step) {
	for _, s := range steps {
		switch s.kind {
		case "write":
			d.reads[s.at], d.open[s.at] = s.cell, true
		case "flush":
			for i := s.at; i < s.at+s.n; i++ {
				d.sure[i], d.open[i] = d.reads[i], false
			}
		case "raise":
			d.counter = s.n
		}
	}
}

// crash is the disk behind a crash that keeps some open sectors.
func (d plainDisk) crash(keep []int) *plainDisk {
	for i := range d.reads {
		if d.open[i] && slices.Contains(keep, i) {
			d.sure[i] = d.reads[i]
		}
		d.reads[i], d.open[i] = d.sure[i], false
	}
	return &d
}

// openOnes is the open sectors.
func (d *plainDisk) openOnes() []int {
	var open []int
	for i, is := range d.open {
		if is {
			open = append(open, i)
		}
	}
	return open
}

func writes(at int, cells ...api.Cell) []step {
	var steps []step
	for i, c := range cells {
		steps = append(steps, step{kind: "write", at: at + i, cell: c})
	}
	return steps
}

// settled is puts written, and all sectors flushed.
func settled(puts []api.Put) []step {
	var steps []step
	for _, p := range puts {
		steps = append(steps, writes(p.At, p.Cell)...)
	}
	return append(steps, step{kind: "flush", at: 0, n: 117})
}

// plainFormat is the steps of a Format.
func plainFormat(key []byte, counter int, fresh []byte) []step {
	wrap := plainDerived(key, "wrap")
	aside := [4]api.Cell{plainSlot(wrap, fresh[:64]), plainSlot(wrap, fresh[64:])}
	head := api.Head{Count: counter + 1, Rest: plainRest(aside)}
	steps := writes(0, make([]api.Cell, 117)...)
	steps = append(steps, writes(1, aside[0], aside[1])...)
	steps = append(steps, writes(0, plainHead(plainDerived(key, "head"), head))...)
	return append(steps, step{kind: "flush", at: 0, n: 117}, step{kind: "raise", n: counter + 1})
}

// plainVault is what a vault knows.
type plainVault struct {
	key   []byte
	head  api.Head
	keys  [2][]byte
	aside [4]api.Cell // slots, then notes
}

// treeOf is where a unit's tree begins.
func treeOf(unit int) int { return 85 + 24*unit }

// commit is the steps of a commit of puts, which are by rising numbers and begin with no head's.
func (v *plainVault) commit(puts []api.Put) []step {
	v.head.Count++
	v.head.Rest = plainRest(v.aside)
	puts = append([]api.Put{{Cell: plainHead(plainDerived(v.key, "head"), v.head)}}, puts...)
	steps := writes(5, plainLog(plainDerived(v.key, "log"), v.head.Count, puts)...)
	steps = append(steps, step{kind: "flush", at: 5, n: 64}, step{kind: "raise", n: v.head.Count})
	return append(steps, settled(puts)...)
}

// replaced is a unit's tree on the disk with other leaves: its puts, those whose bytes change, and the root.
func (v *plainVault) replaced(d *plainDisk, unit int, leaves map[int]api.Sum) ([]api.Put, api.Sum) {
	was := d.reads[treeOf(unit):][:8]
	var all [16]api.Sum
	for b := range all {
		all[b] = plainTagAt(was, 16+b)
		if leaf, ok := leaves[b]; ok {
			all[b] = leaf
		}
	}
	now := plainTree(v.keys[unit], all)
	var puts []api.Put
	for i, c := range now {
		if c != was[i] {
			puts = append(puts, api.Put{At: treeOf(unit) + i, Cell: c})
		}
	}
	return puts, plainTagAt(now[:], 1)
}

// change is the steps of a commit of lines and notes.
func (v *plainVault) change(d *plainDisk, lines []api.Line, notes []api.Put) []step {
	var behind []api.Put
	for unit := range 2 {
		leaves := map[int]api.Sum{}
		for b := range 16 {
			for _, l := range slices.Backward(lines) {
				if l.Unit == unit && l.Block == b {
					hidden := plainTurned(v.keys[unit], b, l.Cell, true)
					leaves[b] = plainLeaf(v.keys[unit], b, hidden)
					behind = append(behind, api.Put{At: 69 + 24*unit + b, Cell: hidden})
					break
				}
			}
		}
		var tree []api.Put
		if len(leaves) > 0 {
			tree, v.head.Roots[unit] = v.replaced(d, unit, leaves)
		}
		behind = append(behind, tree...)
	}
	var puts []api.Put
	for unit := range 2 {
		for _, n := range slices.Backward(notes) {
			if n.At == unit {
				v.aside[2+unit] = n.Cell
				puts = append(puts, api.Put{At: 3 + unit, Cell: n.Cell})
				break
			}
		}
	}
	return v.commit(append(puts, behind...))
}

// erase is the steps of an erasure.
func (v *plainVault) erase(d *plainDisk, unit int, fresh []byte) []step {
	v.keys[unit] = slices.Clone(fresh)
	v.aside[unit] = plainSlot(plainDerived(v.key, "wrap"), fresh)
	v.head.Roots[unit] = api.Sum{}
	puts := []api.Put{{At: 1 + unit, Cell: v.aside[unit]}}
	for i := range 8 {
		if d.reads[treeOf(unit)+i] != (api.Cell{}) {
			puts = append(puts, api.Put{At: treeOf(unit) + i})
		}
	}
	steps := v.commit(puts)
	steps = append(steps, writes(5, make([]api.Cell, 64)...)...)
	return append(steps, step{kind: "flush", at: 5, n: 64})
}

// load is whether head, slots and Rest are good: then the vault knows them.
func (v *plainVault) load(d *plainDisk) bool {
	head, good := plainTakeHead(plainDerived(v.key, "head"), d.reads[0])
	v.head = head
	copy(v.aside[:], d.reads[1:5])
	good = good && head.Rest == plainRest(v.aside)
	for unit := range 2 {
		keys, ok := plainTakeSlot(plainDerived(v.key, "wrap"), v.aside[unit])
		v.keys[unit] = keys
		good = good && ok
	}
	return good
}

// plainStart is the steps of a start, and what the vault knows then; nil, if it is broken.
func plainStart(d plainDisk, key []byte) ([]step, *plainVault) {
	head, ok := plainTakeHead(plainDerived(key, "head"), d.reads[0])
	if !ok {
		head.Count = -1
	}
	log, puts := plainTakeLog(plainDerived(key, "log"), d.reads[5:69])
	var steps []step
	switch {
	case d.counter > 1<<62:
		return nil, nil
	case head.Count == d.counter && log == d.counter+1:
		steps = append(steps, step{kind: "raise", n: log})
		steps = append(steps, settled(puts)...)
	case log == d.counter && (head.Count == d.counter || head.Count == d.counter-1 || !ok):
		steps = settled(puts)
	case head.Count != d.counter:
		return nil, nil
	}
	d.do(steps...)
	v := &plainVault{key: key}
	if !v.load(&d) {
		return steps, nil
	}
	steps = append(steps, v.commit(nil)...)
	return append(steps, v.commit(nil)...), v
}

// read is a block as the disk has it, and whether it is refused.
func (v *plainVault) read(d *plainDisk, unit, block int) (api.Cell, bool) {
	cells := d.reads[treeOf(unit):][:8]
	hidden := d.reads[69+24*unit+block]
	written := plainTagAt(cells, 16+block) != api.Sum{}
	var tag api.Sum
	if written {
		tag = plainLeaf(v.keys[unit], block, hidden)
	}
	for i := 16 + block; i > 1; i /= 2 {
		if i%2 == 0 {
			tag = plainNode(v.keys[unit], i/2, tag, plainTagAt(cells, i+1))
		} else {
			tag = plainNode(v.keys[unit], i/2, plainTagAt(cells, i-1), tag)
		}
	}
	switch {
	case tag != v.head.Roots[unit]:
		return api.Cell{}, true
	case !written:
		return api.Cell{}, false
	}
	return plainTurned(v.keys[unit], block, hidden, false), false
}

func dice() *rand.Rand { return rand.New(rand.NewPCG(12, 1)) }

func anyBytes(r *rand.Rand, n int) []byte {
	b := make([]byte, n)
	for i := range b {
		b[i] = byte(r.Uint32())
	}
	return b
}

func anyCell(r *rand.Rand) api.Cell { return api.Cell(anyBytes(r, 128)) }

func anySum(r *rand.Rand) api.Sum { return api.Sum(anyBytes(r, 32)) }
