package vault

import (
	"errors"

	"citadel/api"
	"citadel/platter"
	"citadel/redo"
)

// none is the count of a head or a log that is none.
const none = -1

// Open starts a tenant's part.
func Open(d *platter.Platter, counter, base int, key []byte) (*Vault, error) {
	v := &Vault{place: place{disk: d, counter: counter, base: base}}
	if !v.exists() {
		return nil, api.ErrRange
	}
	if len(key) != keySize {
		return nil, api.ErrKey
	}
	v.keyring = derive(key)
	if err := v.start(); err != nil {
		return nil, err
	}
	return v, nil
}

// start brings to its end what was cut, and takes what was committed last from the disk.
func (v *Vault) start() error {
	if err := v.mend(); err != nil {
		return err
	}
	if err := v.load(); err != nil {
		return err
	}
	// What a commit that was cut has left in the log may have the next count: behind two more it is behind, for good.
	for range 2 {
		if err := v.commit(v.state, nil); err != nil {
			return broken(err)
		}
	}
	return nil
}

// broken is an error of the disk's within a start: without power it says nothing of what stands there.
func broken(err error) error {
	if errors.Is(err, api.ErrDown) {
		return err
	}
	return api.ErrTamper
}

// mend does what the counter, the head and the log ask for.
func (v *Vault) mend() error {
	counter, err := v.disk.Counter(v.counter)
	if err != nil {
		return err
	}
	head, err := v.headCount()
	if err != nil {
		return err
	}
	log, puts, err := v.logged()
	if err != nil {
		return err
	}
	switch redo.Start(counter, head, log) {
	case redo.Nothing:
		return nil
	case redo.Raise:
		if err := v.raise(log); err != nil {
			return err
		}
		fallthrough
	case redo.Redo:
		return v.settle(puts)
	}
	return api.ErrTamper
}

// headCount is the count that the head on the disk says.
func (v *Vault) headCount() (int, error) {
	cells, err := v.read(headAt, 1)
	if err != nil {
		return 0, err
	}
	if head, ok := TakeHead(v.headKey, cells[0]); ok {
		return head.Count, nil
	}
	return none, nil
}

// logged is the entry that the log begins with. One with sectors that the tenant hasn't is none: a start writes no other tenant's.
func (v *Vault) logged() (int, []api.Put, error) {
	cells, err := v.read(logAt, api.LogSize)
	if err != nil {
		return 0, nil, err
	}
	count, puts, ok := redo.Decode(v.logKey, cells)
	if !ok {
		return none, nil, nil
	}
	for _, put := range puts {
		if put.At >= size {
			return none, nil, nil
		}
	}
	return count, puts, nil
}

// load takes what was committed last from the disk; ErrTamper, if that isn't what the head says.
func (v *Vault) load() error {
	cells, err := v.read(headAt, logAt)
	if err != nil {
		return err
	}
	var s state
	head, ok := TakeHead(v.headKey, cells[headAt])
	if !ok {
		return api.ErrTamper
	}
	s.head = head
	copy(s.aside[:], cells[slotsAt:])
	if s.rest() != head.Rest {
		return api.ErrTamper
	}
	for unit := range s.units {
		if s.units[unit], ok = TakeSlot(v.wrapKey, s.aside[unit]); !ok {
			return api.ErrTamper
		}
	}
	v.state = s
	return nil
}
