package vault

import (
	"citadel/api"
	"citadel/tree"
	"citadel/tweak"
)

const (
	top       = 1          // the root's number in a tree
	firstLeaf = api.Blocks // the number of block 0's leaf
)

// standing is a unit's tree as it stands on the disk, as sectors and as tags. Its root is the committed one: what the disk says there isn't looked at.
func (v *Vault) standing(unit int) ([]api.Cell, []api.Sum, error) {
	cells, err := v.read(treeAt(unit), api.TreeSize)
	if err != nil {
		return nil, nil, err
	}
	tags, err := tree.Tags(cells)
	if err != nil {
		return nil, nil, err
	}
	tags[top] = v.head.Roots[unit]
	return cells, tags, nil
}

// shown is a block as it stands on the disk, if that is what was committed.
func (v *Vault) shown(unit, block int) (api.Cell, error) {
	_, tags, err := v.standing(unit)
	if err != nil {
		return api.Cell{}, err
	}
	cells, err := v.read(blockAt(unit, block), 1)
	if err != nil {
		return api.Cell{}, err
	}
	keys := v.units[unit]
	leaf := tags[firstLeaf+block]
	written := leaf != api.Sum{}
	if written {
		leaf = tree.Leaf(keys.Mark[:], block, cells[0])
	}
	if !tree.Verify(keys.Mark[:], tags, tags[top], block, leaf) {
		return api.Cell{}, api.ErrTamper
	}
	if !written {
		return api.Cell{}, nil
	}
	return show(keys, block, cells[0])
}

// written is the puts of a unit's blocks, given as puts at their numbers, and of its tree; and the root that they come to.
func (v *Vault) written(unit int, blocks []api.Put) ([]api.Put, api.Sum, error) {
	was, tags, err := v.standing(unit)
	if err != nil {
		return nil, api.Sum{}, err
	}
	keys := v.units[unit]
	var puts []api.Put
	for _, block := range blocks {
		hidden, err := hide(keys, block.At, block.Cell)
		if err != nil {
			return nil, api.Sum{}, err
		}
		leaf := tree.Leaf(keys.Mark[:], block.At, hidden)
		if tags, err = replaced(keys.Mark[:], tags, block.At, leaf); err != nil {
			return nil, api.Sum{}, err
		}
		puts = append(puts, api.Put{At: blockAt(unit, block.At), Cell: hidden})
	}
	now, err := tree.Sectors(tags)
	if err != nil {
		return nil, api.Sum{}, err
	}
	return append(puts, changed(treeAt(unit), was, now)...), tags[top], nil
}

// replaced is a tree with another leaf of a block. The tags beside its path go into the new root: none may that the old root doesn't vouch for, or what was set back would be under the new one.
func replaced(key []byte, tags []api.Sum, block int, leaf api.Sum) ([]api.Sum, error) {
	if !tree.Verify(key, tags, tags[top], block, tags[firstLeaf+block]) {
		tags = vouched(key, tags)
	}
	return tree.Update(key, tags, block, leaf)
}

// vouched is a tree as far as its root vouches for it. Children that don't come to their node's tag are both that tag instead: over noughts these are the right ones, and else no block comes to it there, as a node's number is in its tag.
func vouched(key []byte, tags []api.Sum) []api.Sum {
	good := make([]api.Sum, len(tags))
	good[top] = tags[top]
	for i := top; i < firstLeaf; i++ {
		left, right := tags[2*i], tags[2*i+1]
		if tree.Node(key, i, left, right) != good[i] {
			left, right = good[i], good[i]
		}
		good[2*i], good[2*i+1] = left, right
	}
	return good
}

// hide is a block's text as it stands on the disk.
func hide(k api.Keys, block int, text api.Cell) (api.Cell, error) {
	return filled(tweak.Hide(k.Data[:], block, text[:]))
}

// show is the text of a block that stands on the disk.
func show(k api.Keys, block int, hidden api.Cell) (api.Cell, error) {
	return filled(tweak.Show(k.Data[:], block, hidden[:]))
}
