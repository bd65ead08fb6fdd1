package log

import (
	"slices"

	"drydock/api"
	"drydock/dev"
)

// room is how many bytes of a record a sector has.
const room = api.BlockSize - len(tag{})

// tag is a record's number, the highest byte first, as each of its sectors begins with it.
type tag [8]byte

// tagOf is the tag of a number.
func tagOf(seq int) tag {
	var t tag
	for i := range t {
		t[len(t)-1-i] = byte(seq >> (8 * i))
	}
	return t
}

// ring is an area of a device, whose sectors are counted round and round: behind the last one is the first.
type ring struct {
	d *dev.Dev
	a Area
}

// sector is a sector of the device.
func (r ring) sector(i int) int { return r.a.First + i%r.a.Sectors }

// read is what stands behind the tags of the sectors from one on, as long as they have that number, of at most so many.
func (r ring) read(from, seq, most int) ([]byte, error) {
	var all []byte
	for i := range most {
		b, err := r.d.Read(r.sector(from + i))
		if err != nil {
			return nil, err
		}
		t, part := tag(b), b[len(tag{}):]
		if t != tagOf(seq) {
			break
		}
		all = append(all, part...)
	}
	return all, nil
}

// write lays a record's bytes into the sectors from one on.
func (r ring) write(from, seq int, b []byte) error {
	t := tagOf(seq)
	for part := range slices.Chunk(b, room) {
		if err := r.d.Write(r.sector(from), slices.Concat(t[:], part)); err != nil {
			return err
		}
		from++
	}
	return nil
}

// wipe makes so many sectors from one on noughts, where they are not, and that safe.
func (r ring) wipe(from, sectors int) error {
	wiped := false
	for i := range sectors {
		sector := r.sector(from + i)
		b, err := r.d.Read(sector)
		if err != nil {
			return err
		}
		if api.Block(b) == (api.Block{}) {
			continue
		}
		if err := r.d.Write(sector, nil); err != nil {
			return err
		}
		wiped = true
	}
	if !wiped {
		return nil
	}
	return r.d.Flush()
}
