package vault

import (
	"citadel/api"
	"citadel/platter"
)

// Where a tenant's sectors stand, from its base on.
const (
	headAt   = 0
	slotsAt  = headAt + 1
	notesAt  = slotsAt + api.Units
	logAt    = notesAt + api.Units
	unitsAt  = logAt + api.LogSize
	unitSize = api.Blocks + api.TreeSize // sectors of a unit's blocks and tree
	size     = unitsAt + api.Units*unitSize
)

// place is where a tenant's part of the disk stands, and which counter is its own.
type place struct {
	disk    *platter.Platter
	counter int
	base    int
}

// Size is how many sectors a tenant has.
func Size() int { return size }

// blockAt is where a unit's block stands.
func blockAt(unit, block int) int { return unitsAt + unit*unitSize + block }

// treeAt is where a unit's tree begins.
func treeAt(unit int) int { return blockAt(unit, api.Blocks) }

// isUnit tells whether a tenant has such a unit.
func isUnit(unit int) bool { return unit >= 0 && unit < api.Units }

// isBlock tells whether a unit has such a block.
func isBlock(block int) bool { return block >= 0 && block < api.Blocks }

// exists tells whether the disk has these sectors and this counter.
func (p place) exists() bool {
	_, err := p.disk.Counter(p.counter)
	// The sum of the base and the size might be no int.
	return err == nil && p.base >= 0 && p.base <= p.disk.Size()-size
}

// read is so many sectors from one on.
func (p place) read(at, many int) ([]api.Cell, error) {
	cells := make([]api.Cell, many)
	for i := range cells {
		var err error
		if cells[i], err = p.disk.Read(p.base + at + i); err != nil {
			return nil, err
		}
	}
	return cells, nil
}

// write writes sectors, one behind the other.
func (p place) write(puts []api.Put) error {
	for _, put := range puts {
		if err := p.disk.Write(p.base+put.At, put.Cell); err != nil {
			return err
		}
	}
	return nil
}

// settle writes sectors, and makes all of the tenant's sure.
func (p place) settle(puts []api.Put) error {
	if err := p.write(puts); err != nil {
		return err
	}
	return p.disk.Flush(p.base, size)
}

// writeLog writes the log's sectors from its first one on, and makes the log sure.
func (p place) writeLog(cells []api.Cell) error {
	if err := p.write(row(logAt, cells)); err != nil {
		return err
	}
	return p.disk.Flush(p.base+logAt, api.LogSize)
}

// raise raises the tenant's counter.
func (p place) raise(count int) error { return p.disk.Raise(p.counter, count) }

// row is sectors that stand one behind the other, as puts.
func row(at int, cells []api.Cell) []api.Put {
	puts := make([]api.Put, len(cells))
	for i, cell := range cells {
		puts[i] = api.Put{At: at + i, Cell: cell}
	}
	return puts
}

// changed is the puts of those sectors of a row that aren't what they were.
func changed(at int, was, now []api.Cell) []api.Put {
	var puts []api.Put
	for i, put := range row(at, now) {
		if put.Cell != was[i] {
			puts = append(puts, put)
		}
	}
	return puts
}
