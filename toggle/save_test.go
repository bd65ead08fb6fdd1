package toggle_test

import (
	"math"
	"slices"
	"testing"

	"drydock/api"
	"drydock/dev"
	"drydock/toggle"
)

// TG2: the chapter's example.
func TestExample(t *testing.T) {
	d := device(t, 9)
	a := toggle.Area{First: 0, Sectors: 9}
	if toggle.Room(a) != 256 {
		t.Errorf("Room: %d, want 256", toggle.Room(a))
	}
	must(t, toggle.Save(d, a, []byte("a")))
	wantText(t, d, a, "a", 1)
	must(t, toggle.Save(d, a, []byte("b")))
	wantText(t, d, a, "b", 2)
}

// lengths are how long texts may be where a place has four sectors, at all edges of sectors.
var lengths = []int{0, 1, 63, 64, 65, 127, 128, 129, 191, 192, 193, 255, 256}

// TG2: each text of a length that the area has room for is loaded as it was saved, behind each other.
func TestSaveLoad(t *testing.T) {
	for _, a := range []toggle.Area{{0, 9}, {3, 9}, {3, 10}} {
		d := device(t, 13)
		number := uint64(0)
		for _, old := range lengths {
			for _, length := range lengths {
				for _, text := range []string{letters(old, old), letters(length+1, length), string(make([]byte, length))} {
					must(t, toggle.Save(d, a, []byte(text)))
					number++
					wantText(t, d, a, text, number)
				}
			}
		}
	}
}

// image are all sectors of a device.
func image(t *testing.T, d *dev.Dev) []string {
	t.Helper()
	var all []string
	for sector := range d.Sectors() {
		b, err := d.Read(sector)
		must(t, err)
		all = append(all, string(b))
	}
	return all
}

// saved is what the sectors are behind a save, by the chapter's words: the needed ones of a place, and the teller.
func saved(all []string, a toggle.Area, text string, second int, number uint64) []string {
	all = slices.Clone(all)
	sector := places(a)[second]
	for part := range slices.Chunk([]byte(text), api.BlockSize) {
		all[sector] = string(block(string(part)))
		sector++
	}
	all[a.First] = string(block(string(teller(number, second == 1, uint64(len(text))))))
	return all
}

// TG2: where the text and the teller lie; noughts behind them; all else is as it was.
func TestLayout(t *testing.T) {
	for _, a := range []toggle.Area{{0, 9}, {2, 9}, {2, 10}, {4, 9}, {5, 3}, {5, 4}} {
		for _, length := range lengths {
			if length > toggle.Room(a) {
				continue
			}
			d := device(t, 13)
			for sector := range 13 {
				put(t, d, sector, []byte(letters(sector, api.BlockSize)))
			}
			put(t, d, a.First, nil)
			for i := range 5 {
				text := letters(100+i, length)
				want := saved(image(t, d), a, text, i%2, uint64(i+1))
				must(t, toggle.Save(d, a, []byte(text)))
				if got := image(t, d); !slices.Equal(got, want) {
					t.Errorf("%v, %d bytes, save %d:\n%q, want\n%q", a, length, i, got, want)
				}
			}
		}
	}
}

// TG2: of no text the first place is written, though the second one would be free too; else the one that doesn't count, whatever the number.
func TestPlaceTaken(t *testing.T) {
	a := toggle.Area{First: 0, Sectors: 9}
	for _, number := range []uint64{0, 1, 2, 127, 128, 1<<56 - 1, 1 << 63, math.MaxUint64 - 2} {
		for second, truth := range []bool{false, true} {
			if number == 0 && truth {
				continue
			}
			d := device(t, 9)
			next := 1 - second
			if number > 0 {
				put(t, d, 0, behind(teller(number, truth, 0)))
			} else {
				next = 0
			}
			want := saved(image(t, d), a, "new", next, number+1)
			must(t, toggle.Save(d, a, []byte("new")))
			if got := image(t, d); !slices.Equal(got, want) {
				t.Errorf("number %d, %v:\n%q, want\n%q", number, truth, got, want)
			}
			wantText(t, d, a, "new", number+1)
		}
	}
}

// TG2, TG1: behind the greatest number the teller has one more, as the rule says, which is none that Load takes.
func TestNumberEnds(t *testing.T) {
	d := device(t, 9)
	a := toggle.Area{First: 0, Sectors: 9}
	put(t, d, 0, teller(math.MaxUint64-2, false, 0))
	must(t, toggle.Save(d, a, []byte("last")))
	wantText(t, d, a, "last", math.MaxUint64-1)
	must(t, toggle.Save(d, a, []byte("over")))
	wantSector(t, d, 0, string(teller(math.MaxUint64, false, 4)))
	wantNoText(t, d, a, api.ErrForm)
	wantErr(t, "Save", toggle.Save(d, a, nil), api.ErrForm)
}

// TG2: a text of more than Room bytes is refused, and nothing is written; one of Room bytes is not.
func TestSaveLong(t *testing.T) {
	for sectors := 3; sectors <= 12; sectors++ {
		d := device(t, 12)
		a := toggle.Area{First: 0, Sectors: sectors}
		room := toggle.Room(a)
		for i := range 3 {
			writes, before := d.Writes(), image(t, d)
			must(t, d.Arm(0)) // nor does it come to a write
			for _, length := range []int{room + 1, room + api.BlockSize, 10 * room, api.MaxBlob} {
				wantErr(t, "Save long", toggle.Save(d, a, make([]byte, length)), api.ErrLong)
			}
			if d.Writes() != writes || d.Down() || !slices.Equal(image(t, d), before) {
				t.Errorf("Save long: Writes %d, was %d; Down %v", d.Writes(), writes, d.Down())
			}
			d.Start(nil)
			text := letters(i, room)
			must(t, toggle.Save(d, a, []byte(text)))
			wantText(t, d, a, text, uint64(i+1))
		}
	}
}

// TG2: no more sectors are written than are needed, and all is safe in the end.
func TestWritesNeeded(t *testing.T) {
	for _, length := range lengths {
		d := device(t, 9)
		a := toggle.Area{First: 0, Sectors: 9}
		for range 3 {
			before := d.Writes()
			must(t, toggle.Save(d, a, make([]byte, length)))
			needed := (length + api.BlockSize - 1) / api.BlockSize
			if got := d.Writes() - before; got != needed+1 || len(d.Loose()) > 0 {
				t.Errorf("%d bytes: %d writes, want %d; Loose %v", length, got, needed+1, d.Loose())
			}
		}
	}
}

// TG2: the text's sectors are written one behind the other, and made safe; the teller is written behind that. An error of the device stops it.
func TestOrderOfWrites(t *testing.T) {
	a := toggle.Area{First: 2, Sectors: 9}
	for _, second := range []int{0, 1} {
		for _, length := range lengths {
			needed := (length + api.BlockSize - 1) / api.BlockSize
			for writes := range needed + 1 {
				d := device(t, 11)
				put(t, d, 2, teller(9, second == 0, 0))
				must(t, d.Arm(writes))
				wantErr(t, "Save", toggle.Save(d, a, make([]byte, length)), api.ErrDown)
				var want []int
				if writes < needed {
					for i := range writes {
						want = append(want, places(a)[second]+i)
					}
				}
				if got := d.Loose(); !slices.Equal(got, want) {
					t.Errorf("%d bytes, %d writes: Loose %v, want %v", length, writes, got, want)
				}
				if d.Writes() != 1+writes {
					t.Errorf("%d bytes: %d writes, want %d", length, d.Writes()-1, writes)
				}
			}
		}
	}
}

// TG2: what else was loose on the device is made safe with the text.
func TestSaveFlushesAll(t *testing.T) {
	d := device(t, 12)
	a := toggle.Area{First: 0, Sectors: 9}
	must(t, d.Write(11, []byte("loose")))
	must(t, d.Arm(0))
	wantErr(t, "Save", toggle.Save(d, a, nil), api.ErrDown) // of no bytes: the flush stands ahead of the first write
	d.Start(nil)
	wantSector(t, d, 11, "loose")
	wantNoText(t, d, a, api.ErrNone)
}
