// Package dev is layer 1: devices of sectors that can be lost: see shared/doc/01-dev.md.
package dev

import (
	"maps"
	"slices"

	"drydock/api"
)

// Dev is sectors, of which those that were written since the last flush can be lost.
type Dev struct {
	safe    []api.Block       // what no crash takes away
	loose   map[int]api.Block // what was written since all was safe
	crashed bool
	lost    bool
	armed   bool
	left    int // writes that are still done, while it is armed
	writes  int
}

// New is a device of so many sectors, all noughts.
func New(sectors int) (*Dev, error) {
	if sectors < 1 || sectors > api.MaxSectors {
		return nil, api.ErrArg
	}
	return &Dev{safe: make([]api.Block, sectors), loose: map[int]api.Block{}}, nil
}

// Sectors is how many it has.
func (d *Dev) Sectors() int {
	if d == nil {
		return 0
	}
	return len(d.safe)
}

// Read is a sector's bytes.
func (d *Dev) Read(sector int) ([]byte, error) {
	if err := d.reach(sector); err != nil {
		return nil, err
	}
	block, written := d.loose[sector]
	if !written {
		block = d.safe[sector]
	}
	return slices.Clone(block[:]), nil
}

// Write writes a sector.
func (d *Dev) Write(sector int, b []byte) error {
	if err := d.reach(sector); err != nil {
		return err
	}
	if len(b) > api.BlockSize {
		return api.ErrLong
	}
	if err := d.spend(); err != nil {
		return err
	}
	var block api.Block // a whole one, so that no older bytes stay behind a short text
	copy(block[:], b)
	d.loose[sector] = block
	d.writes++
	return nil
}

// Flush makes all that was written safe.
func (d *Dev) Flush() error {
	if err := d.awake(); err != nil {
		return err
	}
	for sector, block := range d.loose {
		d.safe[sector] = block
	}
	clear(d.loose)
	return nil
}

// Loose are the sectors that are not safe.
func (d *Dev) Loose() []int {
	if d == nil {
		return nil
	}
	return slices.Sorted(maps.Keys(d.loose))
}

// Arm lets it crash when so many writes are over.
func (d *Dev) Arm(writes int) error {
	if writes < 0 {
		return api.ErrArg
	}
	if err := d.awake(); err != nil {
		return err
	}
	d.armed, d.left = true, writes
	return nil
}

// Down tells whether it has crashed, or is lost.
func (d *Dev) Down() bool { return d != nil && (d.crashed || d.lost) }

// Start starts it anew: which of the sectors that were not safe are kept.
func (d *Dev) Start(kept []bool) {
	if d == nil || d.lost {
		return
	}
	for i, sector := range d.Loose() {
		if i < len(kept) && kept[i] {
			d.safe[sector] = d.loose[sector]
		}
	}
	clear(d.loose)
	d.crashed, d.armed = false, false
}

// Lose loses it for good.
func (d *Dev) Lose() {
	if d == nil {
		return
	}
	d.lost = true
	// Nothing of it is ever asked for again, so that one in its place finds noughts.
	clear(d.loose)
	clear(d.safe)
}

// Lost tells whether it is lost.
func (d *Dev) Lost() bool { return d != nil && d.lost }

// Replace puts an empty one in its place.
func (d *Dev) Replace() {
	if d == nil || !d.lost {
		return
	}
	// Lose has left noughts, and nothing loose.
	d.lost, d.crashed, d.armed = false, false, false
}

// Writes is how many writes were done.
func (d *Dev) Writes() int {
	if d == nil {
		return 0
	}
	return d.writes
}

// awake is the error of a device that does nothing now.
func (d *Dev) awake() error {
	if d == nil {
		return api.ErrArg
	}
	if d.Down() {
		return api.ErrDown
	}
	return nil
}

// reach is the error of a sector that can't be read or written now.
func (d *Dev) reach(sector int) error {
	if err := d.awake(); err != nil {
		return err
	}
	if sector < 0 || sector >= len(d.safe) {
		return api.ErrRange
	}
	return nil
}

// spend counts a write down while the device is armed; where none is left it crashes.
func (d *Dev) spend() error {
	if !d.armed {
		return nil
	}
	if d.left == 0 {
		d.crashed = true
		return api.ErrDown
	}
	d.left--
	return nil
}
