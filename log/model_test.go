package log_test

import (
	"bytes"
	"encoding/binary"
	"math/bits"
	"math/rand"
	"slices"
	"testing"

	"drydock/api"
	"drydock/dev"
	"drydock/log"
)

const (
	lastNumber = 1 << 40
	mostData   = 1 << 16
	room       = 56 // bytes of a record in a sector
	modulus    = 1<<31 - 1
)

// sumOf is the remainder of the number whose digits are 1 and these bytes.
func sumOf(b []byte) uint64 {
	n := uint64(1)
	for _, c := range b {
		n = (n*257 + uint64(c)) % modulus
	}
	return n
}

// sealed is bytes and their sum.
func sealed(b []byte) []byte {
	return binary.LittleEndian.AppendUint32(slices.Clone(b), uint32(sumOf(b)))
}

// number is a number as bytes, the first of which tells how many more there are.
func number(n uint64) []byte {
	more := max(bits.Len64(n)-1, 0) / 7
	if more >= 8 {
		return binary.BigEndian.AppendUint64([]byte{255}, n)
	}
	b := binary.BigEndian.AppendUint64(nil, n)[7-more:]
	b[0] |= byte(255) << (8 - more)
	return b
}

// head is what a record's bytes have ahead of the data.
func head(seq, length int) []byte {
	return append(number(uint64(seq)), number(uint64(length))...)
}

// recordOf is a record's bytes.
func recordOf(seq int, data []byte) []byte {
	return sealed(append(head(seq, len(data)), data...))
}

// tagged is a sector that begins with a tag.
func tagged(tag uint64, b []byte) api.Block {
	var block api.Block
	binary.BigEndian.PutUint64(block[:], tag)
	copy(block[8:], b)
	return block
}

// sectorsOf are the sectors in which a record lies.
func sectorsOf(seq int, data []byte) []api.Block {
	var l []api.Block
	for part := range slices.Chunk(recordOf(seq, data), room) {
		l = append(l, tagged(uint64(seq), part))
	}
	return l
}

// dataIn is the data of the record with a number with whose bytes those begin. It asks for each length that there is, as the words do not say how it is found.
func dataIn(b []byte, seq int) ([]byte, bool) {
	for length := 0; length <= min(len(b), mostData); length++ {
		ahead := head(seq, length)
		if !bytes.HasPrefix(b, ahead) || len(b) < len(ahead)+length {
			continue
		}
		data := b[len(ahead):][:length]
		if bytes.HasPrefix(b, recordOf(seq, data)) {
			return slices.Clone(data), true
		}
	}
	return nil, false
}

// model is a log, told without the program, on a device of its own.
type model struct {
	d       *dev.Dev
	a       log.Area
	at, seq int
	records []log.Record
	stopped bool
}

// sector is what stands in a sector of the area, counted round.
func (m *model) sector(t *testing.T, i int) api.Block {
	t.Helper()
	b, err := m.d.Read(m.a.First + i%m.a.Sectors)
	must(t, err)
	return api.Block(b)
}

// used is how many sectors the records have.
func (m *model) used() int {
	n := 0
	for _, r := range m.records {
		n += len(sectorsOf(r.Seq, r.Data))
	}
	return n
}

// next is the next record's number.
func (m *model) next() int { return m.seq + len(m.records) }

// lying is the record that lies whole behind the others, if there is one.
func (m *model) lying(t *testing.T) (log.Record, bool) {
	t.Helper()
	var b []byte
	for i := m.used(); i < m.a.Sectors; i++ {
		block := m.sector(t, m.at+i)
		if binary.BigEndian.Uint64(block[:]) != uint64(m.next()) {
			break
		}
		b = append(b, block[8:]...)
	}
	data, whole := dataIn(b, m.next())
	return log.Record{Seq: m.next(), Data: data}, whole && m.next() <= lastNumber
}

// open is LO1's Open of a device that is not down, of numbers that can be.
func (m *model) open(t *testing.T) api.Errno {
	t.Helper()
	m.records, m.stopped = nil, false
	for {
		r, whole := m.lying(t)
		if !whole {
			break
		}
		m.records = append(m.records, r)
	}
	wiped := 0
	for i := m.used(); i < m.a.Sectors; i++ {
		if m.sector(t, m.at+i) == (api.Block{}) {
			continue
		}
		if m.d.Write(m.a.First+(m.at+i)%m.a.Sectors, nil) != nil {
			return api.ErrDown
		}
		wiped++
	}
	if wiped > 0 {
		must(t, m.d.Flush())
	}
	return 0
}

// append is LO2's Append.
func (m *model) append(data []byte) (int, api.Errno) {
	seq, sectors := m.next(), sectorsOf(m.next(), data)
	switch {
	case m.stopped:
		return 0, api.ErrDown
	case len(data) > mostData:
		return 0, api.ErrLong
	case seq > lastNumber, len(sectors) > m.a.Sectors-m.used()-1:
		return 0, api.ErrFull
	}
	for i, block := range sectors {
		if m.d.Write(m.a.First+(m.at+m.used()+i)%m.a.Sectors, block[:]) != nil {
			m.stopped = true
			return 0, api.ErrDown
		}
	}
	m.records = append(m.records, log.Record{Seq: seq, Data: slices.Clone(data)})
	return seq, 0
}

// flush is LO2's Flush.
func (m *model) flush() api.Errno {
	if m.stopped || m.d.Flush() != nil {
		m.stopped = true
		return api.ErrDown
	}
	return 0
}

// trim is LO2's Trim.
func (m *model) trim(seq int) api.Errno {
	switch {
	case m.stopped:
		return api.ErrDown
	case seq < m.seq || seq > m.next():
		return api.ErrRange
	}
	for m.seq < seq {
		m.at = (m.at + len(sectorsOf(m.seq, m.records[0].Data))) % m.a.Sectors
		m.seq++
		m.records = m.records[1:]
	}
	return 0
}

// pair is a log and a model, each on a device of its own, to which the same is done.
type pair struct {
	t *testing.T
	d *dev.Dev
	l *log.Log
	m *model
}

// newPair opens a log and a model, on devices with the same sectors.
func newPair(t *testing.T, sectors []api.Block, a log.Area, at, seq int) *pair {
	t.Helper()
	p := &pair{t: t, d: disk(t, sectors), m: &model{d: disk(t, sectors), a: a, at: at, seq: seq}}
	p.open()
	return p
}

// on does the same to both devices.
func (p *pair) on(do func(d *dev.Dev)) {
	do(p.d)
	do(p.m.d)
}

// open opens both, from the place on where the model's first record is.
func (p *pair) open() api.Errno {
	p.t.Helper()
	l, records, err := log.Open(p.d, p.m.a, p.m.at, p.m.seq)
	want := p.m.open(p.t)
	wantErr(p.t, "Open", err, want)
	if want != 0 {
		wantNoLog(p.t, l, records)
	} else {
		wantRecords(p.t, records, p.m.records)
	}
	p.l = l
	p.check()
	return want
}

// append appends to both.
func (p *pair) append(data []byte) {
	p.t.Helper()
	seq, err := p.l.Append(data)
	want, errno := p.m.append(data)
	wantErr(p.t, "Append", err, errno)
	if seq != want {
		p.t.Fatalf("Append of %d bytes: %d, want %d", len(data), seq, want)
	}
	p.check()
}

// flush flushes both; it tells whether that was done.
func (p *pair) flush() bool {
	p.t.Helper()
	want := p.m.flush()
	wantErr(p.t, "Flush", p.l.Flush(), want)
	p.check()
	return want == 0
}

// trim trims both.
func (p *pair) trim(seq int) {
	p.t.Helper()
	wantErr(p.t, "Trim", p.l.Trim(seq), p.m.trim(seq))
	p.check()
}

// check checks that all that can be seen of both is the same.
func (p *pair) check() {
	p.t.Helper()
	if p.l != nil {
		wantLog(p.t, p.l, p.m.at, p.m.seq, p.m.next(), p.m.a.Sectors-p.m.used())
	}
	if p.d.Down() != p.m.d.Down() || p.d.Writes() != p.m.d.Writes() || !slices.Equal(p.d.Loose(), p.m.d.Loose()) {
		p.t.Fatalf("the device: %v, %d writes, %v loose, want %v, %d, %v", p.d.Down(), p.d.Writes(), p.d.Loose(), p.m.d.Down(), p.m.d.Writes(), p.m.d.Loose())
	}
	if !p.d.Down() && !slices.Equal(image(p.t, p.d), image(p.t, p.m.d)) {
		p.t.Fatalf("the device:\n%v, want\n%v", image(p.t, p.d), image(p.t, p.m.d))
	}
}

// start starts both devices, of each the same sectors kept, and opens both.
func (p *pair) start(kept []bool) {
	p.t.Helper()
	p.on(func(d *dev.Dev) { d.Start(kept) })
	if p.open() != 0 {
		p.t.Fatal("a device that was started crashes")
	}
}

// anyData is bytes, most of them few, of which there are often so many that they just fill a sector, or one more or less.
func anyData(rnd *rand.Rand, most int) []byte {
	length := rnd.Intn(most + 1)
	if rnd.Intn(2) == 0 {
		length = max(0, room*(1+rnd.Intn(most/room+1))-rnd.Intn(12))
	}
	b := make([]byte, length)
	rnd.Read(b)
	return b
}

// anyKept is which of so many sectors are kept.
func anyKept(rnd *rand.Rand, loose int) []bool {
	kept := make([]bool, loose)
	for i := range kept {
		kept[i] = rnd.Intn(2) == 0
	}
	return kept
}
