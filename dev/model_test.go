package dev_test

import (
	"bytes"
	"maps"
	"math/rand"
	"slices"
	"testing"

	"drydock/api"
	"drydock/dev"
)

// model is a device as the chapter tells it, without thought of room or time: all sectors twice.
type model struct {
	last, safe             [][]byte
	loose                  map[int]bool
	crashed, lost, isArmed bool
	left, writes           int
}

func newModel(sectors int) *model {
	m := &model{loose: map[int]bool{}}
	for range sectors {
		m.last = append(m.last, block(""))
		m.safe = append(m.safe, block(""))
	}
	return m
}

func (m *model) write(sector int, b []byte) api.Errno {
	switch {
	case m.crashed || m.lost:
		return api.ErrDown
	case sector < 0 || sector >= len(m.last):
		return api.ErrRange
	case len(b) > api.BlockSize:
		return api.ErrLong
	case m.isArmed && m.left == 0:
		m.crashed = true
		return api.ErrDown
	}
	m.left--
	m.last[sector] = block(string(b))
	m.loose[sector] = true
	m.writes++
	return 0
}

func (m *model) flush() api.Errno {
	if m.crashed || m.lost {
		return api.ErrDown
	}
	m.safe = slices.Clone(m.last)
	m.loose = map[int]bool{}
	return 0
}

func (m *model) arm(n int) api.Errno {
	switch {
	case n < 0:
		return api.ErrArg
	case m.crashed || m.lost:
		return api.ErrDown
	}
	m.isArmed, m.left = true, n
	return 0
}

func (m *model) start(kept []bool) {
	if m.lost {
		return
	}
	for i, sector := range slices.Sorted(maps.Keys(m.loose)) {
		if i < len(kept) && kept[i] {
			m.safe[sector] = m.last[sector]
		}
	}
	m.last = slices.Clone(m.safe)
	m.loose = map[int]bool{}
	m.crashed, m.isArmed = false, false
}

func (m *model) lose() {
	m.lost = true
	m.loose = map[int]bool{}
}

func (m *model) replace() {
	if m.lost {
		writes := m.writes
		*m = *newModel(len(m.last))
		m.writes = writes
	}
}

// same checks all that can be seen of a device.
func (m *model) same(t *testing.T, d *dev.Dev) {
	t.Helper()
	down := m.crashed || m.lost
	wantState(t, d, down, m.lost)
	wantLoose(t, d, slices.Sorted(maps.Keys(m.loose))...)
	if d.Writes() != m.writes || d.Sectors() != len(m.last) {
		t.Errorf("Writes %d, Sectors %d, want %d, %d", d.Writes(), d.Sectors(), m.writes, len(m.last))
	}
	for i, want := range m.last {
		b, err := d.Read(i)
		if down {
			wantErr(t, "Read", err, api.ErrDown)
		} else if err != nil || !bytes.Equal(b, want) {
			t.Errorf("Read(%d): %q, %v, want %q", i, b, err, want)
		}
	}
}

// step does one thing, picked by r, to both.
func step(t *testing.T, r *rand.Rand, d *dev.Dev, m *model) {
	t.Helper()
	switch n := r.Intn(40); {
	case n < 20:
		sector, b := r.Intn(len(m.last)+2)-1, make([]byte, r.Intn(api.BlockSize+2))
		r.Read(b)
		wantErr(t, "Write", d.Write(sector, b), m.write(sector, b))
	case n < 25:
		wantErr(t, "Flush", d.Flush(), m.flush())
	case n < 29:
		left := r.Intn(6) - 1
		wantErr(t, "Arm", d.Arm(left), m.arm(left))
	case n < 37:
		kept := make([]bool, r.Intn(6))
		for i := range kept {
			kept[i] = r.Intn(2) == 0
		}
		d.Start(kept)
		m.start(kept)
	case n < 38:
		d.Lose()
		m.lose()
	default:
		d.Replace()
		m.replace()
	}
}

// DV1 to DV3: whatever is done, and in whatever order, is what the model says; what was flushed is there behind every Start.
func TestModel(t *testing.T) {
	for seed := range int64(200) {
		r := rand.New(rand.NewSource(seed))
		sectors := 1 + r.Intn(6)
		d, m := device(t, sectors), newModel(sectors)
		for range 150 {
			step(t, r, d, m)
			m.same(t, d)
			if t.Failed() {
				t.Fatalf("seed %d", seed)
			}
		}
	}
}

// DV3: what was flushed, and not written since, is there behind every Start, whatever of the rest is kept.
func TestFlushedStays(t *testing.T) {
	for bits := range 16 {
		for writes := range 5 {
			d := device(t, 8)
			for i := range 8 {
				must(t, d.Write(i, []byte{byte('a' + i)}))
			}
			must(t, d.Flush())
			must(t, d.Arm(writes))
			for i := range 5 {
				d.Write(i, []byte("new"))
			}
			for range 3 {
				d.Start([]bool{bits&1 != 0, bits&2 != 0, bits&4 != 0, bits&8 != 0})
				for i := writes; i < 8; i++ {
					wantText(t, d, i, string(rune('a'+i)))
				}
			}
		}
	}
}
