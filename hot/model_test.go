package hot_test

import (
	"bytes"
	"encoding/binary"
	"math/bits"
	"slices"
	"testing"

	"drydock/api"
	"drydock/dev"
	"drydock/hot"
)

const (
	mostBoxes   = 1 << 10
	mostSectors = 1 << 10
	modulus     = 1<<31 - 1
)

// The states, as the words number them.
const (
	free   = 0
	open   = 1
	sealed = 2
	limbo  = 3
)

// box is what Stat tells of one.
type box struct{ state, bytes, useful int }

// sumOf is the remainder of the number whose digits are 1 and these bytes.
func sumOf(b []byte) uint32 {
	n := uint64(1)
	for _, c := range b {
		n = (n*257 + uint64(c)) % modulus
	}
	return uint32(n)
}

// seal is bytes and their sum.
func seal(b []byte) []byte {
	return binary.LittleEndian.AppendUint32(slices.Clone(b), sumOf(b))
}

// number is a number as bytes, the first of which tells how many more there are.
func number(n uint64) []byte {
	more := max(bits.Len64(n)-1, 0) / 7
	if more >= 8 {
		return binary.BigEndian.AppendUint64([]byte{255}, n)
	}
	b := binary.BigEndian.AppendUint64(nil, n)[7-more:]
	b[0] |= byte(255) << (8 - more)
	return b
}

// spelt is what boxes are as bytes, ahead of the sum: their count, and three numbers of each.
func spelt(count int, boxes ...box) []byte {
	b := number(uint64(count))
	for _, x := range boxes {
		for _, n := range []int{x.state, x.bytes, x.useful} {
			b = append(b, number(uint64(n))...)
		}
	}
	return b
}

// encoded is what boxes are as bytes.
func encoded(boxes ...box) []byte { return seal(spelt(len(boxes), boxes...)) }

// model is boxes, told without the program, on a device of its own.
type model struct {
	d     *dev.Dev
	c     hot.Config
	boxes []box
}

// size is how many bytes a box has room for.
func (m *model) size() int { return m.c.Sectors * api.BlockSize }

// put is HT1's Put.
func (m *model) put(b []byte) (hot.Loc, api.Errno) {
	if len(b) == 0 || len(b) > m.size() {
		return hot.Loc{}, api.ErrLong
	}
	at := -1
	for i, x := range m.boxes {
		if x.state == open {
			at = i
		}
	}
	if at < 0 || m.boxes[at].bytes+len(b) > m.size() {
		least := 0
		for least < len(m.boxes) && m.boxes[least].state != free {
			least++
		}
		if least == len(m.boxes) {
			return hot.Loc{}, api.ErrFull
		}
		if at >= 0 {
			m.boxes[at].state = sealed
		}
		m.boxes[least] = box{open, 0, 0}
		at = least
	}
	from := m.boxes[at].bytes
	for s := from / 64; s*64 < from+len(b); s++ {
		if m.lay(m.c.First+at*m.c.Sectors+s, from-s*64, b) != nil {
			return hot.Loc{}, api.ErrDown
		}
	}
	m.boxes[at].bytes += len(b)
	m.boxes[at].useful += len(b)
	return hot.Loc{Box: at, From: from, Len: len(b), Sum: sumOf(b)}, 0
}

// lay writes a sector: what it has ahead of a place in it (or ahead of the whole), from there on the bytes, and noughts.
func (m *model) lay(sector, place int, b []byte) error {
	block, err := m.d.Read(sector)
	if err != nil {
		return err
	}
	for i := range block {
		switch {
		case i >= place+len(b):
			block[i] = 0
		case i >= place:
			block[i] = b[i-place]
		}
	}
	return m.d.Write(sector, block)
}

// has tells whether there is such a box.
func (m *model) has(i int) bool { return i >= 0 && i < len(m.boxes) }

// within tells whether bytes lie within those of a box that is not free.
func (m *model) within(l hot.Loc) bool {
	if !m.has(l.Box) || l.Len < 1 || l.From < 0 {
		return false
	}
	x := m.boxes[l.Box]
	return x.state != free && l.From <= x.bytes && l.Len <= x.bytes && l.From+l.Len <= x.bytes
}

// lying are bytes of a box, each read on its own.
func (m *model) lying(i, from, n int) ([]byte, api.Errno) {
	var all []byte
	for at := from; at < from+n; at++ {
		b, err := m.d.Read(m.c.First + i*m.c.Sectors + at/64)
		if err != nil {
			return nil, api.ErrDown
		}
		all = append(all, b[at%64])
	}
	return all, 0
}

// get is HT2's Get.
func (m *model) get(l hot.Loc) ([]byte, api.Errno) {
	if !m.within(l) {
		return nil, api.ErrRange
	}
	b, err := m.lying(l.Box, l.From, l.Len)
	if err == 0 && sumOf(b) != l.Sum {
		return nil, api.ErrSum
	}
	return b, err
}

// drop is HT2's Drop.
func (m *model) drop(l hot.Loc) api.Errno {
	if !m.within(l) || m.boxes[l.Box].useful < l.Len {
		return api.ErrRange
	}
	m.boxes[l.Box].useful -= l.Len
	return 0
}

// seal is HT1's Seal.
func (m *model) seal() {
	for i, x := range m.boxes {
		if x.state == open {
			m.boxes[i].state = sealed
		}
	}
}

// bytes is HT2's Bytes.
func (m *model) bytes(i int) ([]byte, api.Errno) {
	if !m.has(i) || m.boxes[i].state == free {
		return nil, api.ErrRange
	}
	return m.lying(i, 0, m.boxes[i].bytes)
}

// release is HT2's Release.
func (m *model) release(i int) api.Errno {
	if !m.has(i) || m.boxes[i].state != sealed {
		return api.ErrRange
	}
	m.boxes[i] = box{limbo, m.boxes[i].bytes, 0}
	return 0
}

// settle is HT2's Settle.
func (m *model) settle() {
	for i, x := range m.boxes {
		if x.state == limbo {
			m.boxes[i] = box{free, 0, 0}
		}
	}
}

// room is HT2's Room.
func (m *model) room() int {
	n := 0
	for _, x := range m.boxes {
		switch x.state {
		case free:
			n += m.size()
		case open:
			n += m.size() - x.bytes
		}
	}
	return n
}

// pair is a Hot and a model, each on a device of its own, to which the same is done.
type pair struct {
	t *testing.T
	d *dev.Dev
	h *hot.Hot
	m *model
}

// newPair is a Hot and a model of free boxes, on devices with the same sectors.
func newPair(t *testing.T, sectors []api.Block, c hot.Config) *pair {
	t.Helper()
	p := &pair{t: t, d: disk(t, sectors), m: &model{d: disk(t, sectors), c: c, boxes: make([]box, c.Count)}}
	p.h = made(t, p.d, c)
	p.check()
	return p
}

// on does the same to both devices.
func (p *pair) on(do func(d *dev.Dev)) {
	do(p.d)
	do(p.m.d)
}

// put puts into both.
func (p *pair) put(b []byte) (hot.Loc, api.Errno) {
	p.t.Helper()
	want, errno := p.m.put(b)
	got, err := p.h.Put(b)
	wantErr(p.t, "Put", err, errno)
	if got != want {
		p.t.Fatalf("Put of %d bytes: %v, want %v", len(b), got, want)
	}
	p.check()
	return got, errno
}

// get gets of both.
func (p *pair) get(l hot.Loc) {
	p.t.Helper()
	want, errno := p.m.get(l)
	got, err := p.h.Get(l)
	wantErr(p.t, "Get", err, errno)
	wantBytes(p.t, "Get", got, want)
	p.check()
}

// drop drops of both.
func (p *pair) drop(l hot.Loc) {
	p.t.Helper()
	wantErr(p.t, "Drop", p.h.Drop(l), p.m.drop(l))
	p.check()
}

// seal seals both.
func (p *pair) seal() {
	p.t.Helper()
	p.h.Seal()
	p.m.seal()
	p.check()
}

// bytes asks both for all bytes of a box.
func (p *pair) bytes(i int) {
	p.t.Helper()
	want, errno := p.m.bytes(i)
	got, err := p.h.Bytes(i)
	wantErr(p.t, "Bytes", err, errno)
	wantBytes(p.t, "Bytes", got, want)
	p.check()
}

// release releases a box of both.
func (p *pair) release(i int) {
	p.t.Helper()
	wantErr(p.t, "Release", p.h.Release(i), p.m.release(i))
	p.check()
}

// settle settles both.
func (p *pair) settle() {
	p.t.Helper()
	p.h.Settle()
	p.m.settle()
	p.check()
}

// again decodes what is encoded, and goes on with that.
func (p *pair) again() {
	p.t.Helper()
	p.back(p.h.Encode(), p.m.boxes)
}

// back goes on with boxes as they were encoded once.
func (p *pair) back(b []byte, boxes []box) {
	p.t.Helper()
	h, err := hot.Decode(p.d, p.m.c, b)
	must(p.t, err)
	p.h, p.m.boxes = h, slices.Clone(boxes)
	p.check()
}

// check checks that all that can be seen of both is the same.
func (p *pair) check() {
	p.t.Helper()
	wantBoxes(p.t, p.h, p.m.boxes...)
	if got := p.h.Room(); got != p.m.room() {
		p.t.Fatalf("Room: %d, want %d", got, p.m.room())
	}
	if got := p.h.Encode(); !bytes.Equal(got, encoded(p.m.boxes...)) {
		p.t.Fatalf("Encode: %v, want %v", got, encoded(p.m.boxes...))
	}
	if p.d.Down() != p.m.d.Down() || p.d.Writes() != p.m.d.Writes() || !slices.Equal(p.d.Loose(), p.m.d.Loose()) {
		p.t.Fatalf("the device: %v, %d writes, %v loose, want %v, %d, %v", p.d.Down(), p.d.Writes(), p.d.Loose(), p.m.d.Down(), p.m.d.Writes(), p.m.d.Loose())
	}
	if !p.d.Down() && !slices.Equal(image(p.t, p.d), image(p.t, p.m.d)) {
		p.t.Fatalf("the device:\n%v, want\n%v", image(p.t, p.d), image(p.t, p.m.d))
	}
}
