package vault

import (
	"slices"

	"citadel/api"
	"citadel/mac"
	"citadel/words"
	"citadel/wrap"
)

const (
	countSize = 8                     // bytes of a head's count
	keysSize  = 2*api.Block + api.Tag // bytes of a unit's keys
	slotSize  = keysSize + 8          // bytes of a slot ahead of its noughts: wrapping takes a word more
)

// HeadCell is a head's sector.
func HeadCell(key []byte, h api.Head) (api.Cell, error) {
	if h.Count < 0 {
		return api.Cell{}, api.ErrForm
	}
	text, err := words.Put(nil, countSize, h.Count)
	if err != nil {
		return api.Cell{}, err
	}
	for _, root := range h.Roots {
		text = append(text, root[:]...)
	}
	text = append(text, h.Rest[:]...)
	sum := mac.Tag(key, text)
	return words.Fill(append(text, sum[:]...))
}

// TakeHead is the head of a sector.
func TakeHead(key []byte, c api.Cell) (api.Head, bool) {
	h, err := said(c)
	if err != nil {
		return api.Head{}, false
	}
	made, err := HeadCell(key, h)
	if err != nil || !mac.Equal(made[:], c[:]) {
		return api.Head{}, false
	}
	return h, true
}

// said is the head that a sector says, whatever its tag.
func said(c api.Cell) (api.Head, error) {
	var h api.Head
	count, rest, err := words.Take(c[:], countSize)
	if err != nil {
		return api.Head{}, err
	}
	h.Count = count
	for i := range h.Roots {
		n := copy(h.Roots[i][:], rest)
		rest = rest[n:]
	}
	copy(h.Rest[:], rest)
	return h, nil
}

// KeysOf is a unit's keys.
func KeysOf(b []byte) (api.Keys, error) {
	if len(b) != keysSize {
		return api.Keys{}, api.ErrKey
	}
	var k api.Keys
	n := copy(k.Data[:], b)
	copy(k.Mark[:], b[n:])
	return k, nil
}

// Slot is a unit's slot.
func Slot(key []byte, k api.Keys) (api.Cell, error) {
	return filled(wrap.Wrap(key, slices.Concat(k.Data[:], k.Mark[:])))
}

// TakeSlot is the keys of a slot.
func TakeSlot(key []byte, c api.Cell) (api.Keys, bool) {
	if filled, err := words.Fill(c[:slotSize]); err != nil || filled != c {
		return api.Keys{}, false
	}
	text, err := wrap.Unwrap(key, c[:slotSize])
	if err != nil {
		return api.Keys{}, false
	}
	k, err := KeysOf(text)
	return k, err == nil
}

// filled is a sector that begins with what a call answered, or the call's error.
func filled(b []byte, err error) (api.Cell, error) {
	if err != nil {
		return api.Cell{}, err
	}
	return words.Fill(b)
}
