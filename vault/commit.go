package vault

import (
	"citadel/api"
	"citadel/redo"
)

// change commits lines and notes of units that there are.
func (v *Vault) change(lines []api.Line, notes []api.Put) error {
	next := v.state
	var puts []api.Put
	for unit := range api.Units {
		blocks := lastOf(unit, lines)
		if len(blocks) == 0 {
			continue
		}
		made, root, err := v.written(unit, blocks)
		if err != nil {
			return err
		}
		puts = append(puts, made...)
		next.head.Roots[unit] = root
	}
	for _, note := range notes {
		puts = append(puts, api.Put{At: notesAt + note.At, Cell: note.Cell})
		next.aside[api.Units+note.At] = note.Cell
	}
	return v.commit(next, puts)
}

// lastOf is a unit's lines as puts at their blocks' numbers, of each block the last one.
func lastOf(unit int, lines []api.Line) []api.Put {
	var puts []api.Put
	for _, line := range lines {
		if line.Unit == unit {
			puts = append(puts, api.Put{At: line.Block, Cell: line.Cell})
		}
	}
	return redo.Merge(puts...)
}

// erase commits other keys and a tree of noughts for a unit, and then nothing in the log.
func (v *Vault) erase(unit int, keys api.Keys) error {
	was, err := v.read(treeAt(unit), api.TreeSize)
	if err != nil {
		return err
	}
	slot, err := Slot(v.wrapKey, keys)
	if err != nil {
		return err
	}
	puts := changed(treeAt(unit), was, make([]api.Cell, api.TreeSize))
	puts = append(puts, api.Put{At: slotsAt + unit, Cell: slot})
	next := v.state
	next.head.Roots[unit] = api.Sum{}
	next.units[unit] = keys
	next.aside[unit] = slot
	if err := v.commit(next, puts); err != nil {
		return err
	}
	// An elder erasure that was cut may have left this unit's old slot there.
	return v.writeLog(make([]api.Cell, api.LogSize))
}

// commit makes sure, whole or not at all, what comes next: the puts, and the head over it.
func (v *Vault) commit(next state, puts []api.Put) error {
	count := v.head.Count + 1
	next.head.Count = count
	next.head.Rest = next.rest()
	head, err := HeadCell(v.headKey, next.head)
	if err != nil {
		return err
	}
	puts = redo.Merge(append(puts, api.Put{At: headAt, Cell: head})...)
	log, err := redo.Encode(v.logKey, count, puts)
	if err != nil {
		// The count and the numbers are an entry's: there are too many puts.
		return api.ErrFull
	}
	if err := v.store(count, log, puts); err != nil {
		return err
	}
	v.state = next
	return nil
}

// store writes a commit. Till the log is sure nothing else has changed; from then on a start can do what is left.
func (v *Vault) store(count int, log []api.Cell, puts []api.Put) error {
	// Looked at ahead of the log: a counter that is beyond isn't this vault's any more, and neither is the log.
	if now, err := v.disk.Counter(v.counter); err != nil || now > count {
		return api.ErrRange
	}
	if err := v.writeLog(log); err != nil {
		return err
	}
	if err := v.raise(count); err != nil {
		return err
	}
	return v.settle(puts)
}
