package toggle_test

import (
	"bytes"
	"errors"
	"math"
	"testing"

	"drydock/api"
	"drydock/dev"
	"drydock/pack"
	"drydock/toggle"
)

// The calls as the chapter lists them.
var (
	_ func(toggle.Area) int                               = toggle.Room
	_ func(*dev.Dev, toggle.Area, []byte) error           = toggle.Save
	_ func(*dev.Dev, toggle.Area) ([]byte, uint64, error) = toggle.Load
	_                                                     = toggle.Area{First: 0, Sectors: 3}
)

// device is a new one of so many sectors.
func device(t *testing.T, sectors int) *dev.Dev {
	t.Helper()
	d, err := dev.New(sectors)
	must(t, err)
	return d
}

// must checks that something was done.
func must(t *testing.T, err error) {
	t.Helper()
	if err != nil {
		t.Fatal(err)
	}
}

// wantErr checks that an error is that number, found as the document asks; 0: none.
func wantErr(t *testing.T, what string, err error, want api.Errno) {
	t.Helper()
	if want == 0 {
		if err != nil {
			t.Errorf("%s: %v, want no error", what, err)
		}
		return
	}
	var got api.Errno
	if !errors.As(err, &got) || got != want {
		t.Errorf("%s: %v, want %v", what, err, want)
	}
}

// wantText checks that a text is loaded, and its number.
func wantText(t *testing.T, d *dev.Dev, a toggle.Area, text string, number uint64) {
	t.Helper()
	b, n, err := toggle.Load(d, a)
	if err != nil || string(b) != text || n != number {
		t.Errorf("Load: %q, %d, %v, want %q, %d", b, n, err, text, number)
	}
}

// wantNoText checks that Load answers an error, and nothing beside it.
func wantNoText(t *testing.T, d *dev.Dev, a toggle.Area, want api.Errno) {
	t.Helper()
	b, n, err := toggle.Load(d, a)
	wantErr(t, "Load", err, want)
	if len(b) != 0 || n != 0 {
		t.Errorf("Load: %q, %d beside an error", b, n)
	}
}

// wantSector checks that a sector holds bytes and noughts behind.
func wantSector(t *testing.T, d *dev.Dev, sector int, text string) {
	t.Helper()
	b, err := d.Read(sector)
	if err != nil || !bytes.Equal(b, block(text)) {
		t.Errorf("sector %d: %q, %v, want %q and noughts", sector, b, err, text)
	}
}

// put lays bytes into a sector, safely.
func put(t *testing.T, d *dev.Dev, sector int, b []byte) {
	t.Helper()
	must(t, d.Write(sector, b))
	must(t, d.Flush())
}

// block is a text, and noughts behind.
func block(text string) []byte {
	return append([]byte(text), make([]byte, api.BlockSize-len(text))...)
}

// teller is what a teller tells, as bytes.
func teller(number uint64, second bool, length uint64) []byte {
	return pack.New().Uint(number).Bool(second).Uint(length).Done()
}

// letters is a text of so many bytes, none of them a nought, of which no two sectors are the same.
func letters(seed, length int) string {
	b := make([]byte, length)
	for i := range b {
		b[i] = byte('!' + (seed*31+i*7+i/api.BlockSize)%90)
	}
	return string(b)
}

// places are the two places of an area, their first sectors, as the chapter's words tell them.
func places(a toggle.Area) [2]int {
	half := (a.Sectors - 1) / 2
	return [2]int{a.First + 1, a.First + 1 + half}
}

// TG1: how many bytes a text may have hangs on how many sectors the area has, alone.
func TestRoom(t *testing.T) {
	for _, c := range []struct{ sectors, room int }{
		{math.MinInt, 0}, {-1, 0}, {0, 0}, {1, 0}, {2, 0},
		{3, 64}, {4, 64}, {5, 128}, {6, 128}, {9, 256}, {10, 256}, {11, 320},
		{api.MaxSectors - 1, 64 * 8191}, {api.MaxSectors, 64 * 8191},
		{api.MaxSectors + 1, 0}, {2 * api.MaxSectors, 0}, {math.MaxInt, 0},
	} {
		for _, first := range []int{math.MinInt, -1, 0, 1, api.MaxSectors, math.MaxInt} {
			if got := toggle.Room(toggle.Area{First: first, Sectors: c.sectors}); got != c.room {
				t.Errorf("Room of %d sectors from %d on: %d, want %d", c.sectors, first, got, c.room)
			}
		}
	}
}

// outside are areas that are not in a device of 10 sectors.
var outside = []toggle.Area{
	{First: -1, Sectors: 3}, {First: -1, Sectors: 10}, {First: -7, Sectors: 20}, {First: math.MinInt, Sectors: 3},
	{First: 0, Sectors: 2}, {First: 0, Sectors: 1}, {First: 0, Sectors: 0}, {First: 0, Sectors: -3}, {First: 0, Sectors: math.MinInt},
	{First: 9, Sectors: 1}, {First: 10, Sectors: 0}, {First: 12, Sectors: -2}, {First: math.MaxInt, Sectors: math.MinInt},
	{First: 0, Sectors: 11}, {First: 1, Sectors: 10}, {First: 7, Sectors: 4}, {First: 8, Sectors: 3}, {First: 10, Sectors: 3},
	{First: 0, Sectors: api.MaxSectors}, {First: 0, Sectors: api.MaxSectors + 1}, {First: 0, Sectors: math.MaxInt},
	{First: math.MaxInt, Sectors: 3}, {First: math.MaxInt - 2, Sectors: 3}, {First: math.MaxInt, Sectors: math.MaxInt},
	{First: math.MinInt, Sectors: math.MaxInt}, {First: 3, Sectors: math.MaxInt}, {First: math.MinInt, Sectors: math.MinInt},
}

// TG1, TG2: an area that is not in the device, or that has too few sectors, is ErrArg, ahead of all other errors, and nothing is written.
func TestAreaOutside(t *testing.T) {
	for _, a := range outside {
		for _, state := range []func(d *dev.Dev){
			func(d *dev.Dev) {},
			func(d *dev.Dev) { d.Write(max(0, min(a.First, 9)), []byte{0, 1}) }, // no teller
			func(d *dev.Dev) { d.Arm(0); d.Write(0, nil) },
			func(d *dev.Dev) { d.Lose() },
		} {
			d := device(t, 10)
			state(d)
			writes := d.Writes()
			wantNoText(t, d, a, api.ErrArg)
			wantErr(t, "Save", toggle.Save(d, a, nil), api.ErrArg)
			wantErr(t, "Save long", toggle.Save(d, a, make([]byte, 1000)), api.ErrArg)
			if d.Writes() != writes {
				t.Errorf("%v: written", a)
			}
		}
	}
}

// TG1, TG2: areas that just reach to the device's ends hold texts.
func TestAreaInside(t *testing.T) {
	for _, a := range []toggle.Area{{0, 3}, {0, 4}, {0, 9}, {0, 10}, {1, 9}, {5, 5}, {6, 4}, {7, 3}} {
		d := device(t, 10)
		wantNoText(t, d, a, api.ErrNone)
		for i := range 4 {
			text := letters(i, toggle.Room(a))
			must(t, toggle.Save(d, a, []byte(text)))
			wantText(t, d, a, text, uint64(i+1))
		}
	}
}

// TG1, TG2: the greatest area holds the greatest text, in both places.
func TestWholeDevice(t *testing.T) {
	d := device(t, api.MaxSectors)
	a := toggle.Area{First: 0, Sectors: api.MaxSectors}
	for i := range 2 {
		text := letters(i, toggle.Room(a))
		must(t, toggle.Save(d, a, []byte(text)))
		wantText(t, d, a, text, uint64(i+1))
	}
}

// TG1, TG2: no device has no area.
func TestNilDevice(t *testing.T) {
	for _, a := range append([]toggle.Area{{0, 3}, {0, 9}, {2, 3}}, outside...) {
		wantNoText(t, nil, a, api.ErrArg)
		wantErr(t, "Save", toggle.Save(nil, a, []byte("a")), api.ErrArg)
	}
}

// TG1, TG2: the device's error is told ahead of what the teller is, or the text; once it answers again all is as it was.
func TestDeviceDown(t *testing.T) {
	a := toggle.Area{First: 1, Sectors: 9}
	for _, b := range [][]byte{nil, teller(7, true, 3), {0, 1}, teller(math.MaxUint64, false, 0)} {
		d := device(t, 10)
		put(t, d, 1, b)
		_, number, before := toggle.Load(d, a)
		must(t, d.Arm(0))
		wantErr(t, "Write", d.Write(0, nil), api.ErrDown)
		for _, lose := range []bool{false, true} {
			if lose {
				d.Lose()
			}
			wantNoText(t, d, a, api.ErrDown)
			wantErr(t, "Save", toggle.Save(d, a, []byte("a")), api.ErrDown)
			wantErr(t, "Save long", toggle.Save(d, a, make([]byte, 1000)), api.ErrDown)
			d.Start(nil)
			if !lose {
				if _, n, err := toggle.Load(d, a); n != number || !errors.Is(err, before) {
					t.Errorf("started anew: %d, %v, was %d, %v", n, err, number, before)
				}
			}
		}
		d.Replace()
		wantNoText(t, d, a, api.ErrNone)
	}
}

// TG1: of a teller of noughts alone there is no text, whatever the places hold.
func TestNoText(t *testing.T) {
	d := device(t, 9)
	a := toggle.Area{First: 0, Sectors: 9}
	wantNoText(t, d, a, api.ErrNone)
	for i := 1; i < 9; i++ {
		put(t, d, i, []byte("something"))
	}
	wantNoText(t, d, a, api.ErrNone)
	must(t, toggle.Save(d, a, nil)) // a text of no bytes is one all the same
	wantText(t, d, a, "", 1)
	put(t, d, 0, nil)
	wantNoText(t, d, a, api.ErrNone)
}

// behind is bytes with others behind them, up to a sector's end.
func behind(b []byte) []byte {
	return append(bytes.Clone(b), bytes.Repeat([]byte{255}, api.BlockSize-len(b))...)
}

// wrong are sectors that are no teller of a text of at most 256 bytes.
var wrong = map[string][]byte{
	"a number 0":                       teller(0, true, 0),
	"a number 0 that has a length":     teller(0, false, 5),
	"a number 0, bytes behind":         behind(teller(0, false, 0)),
	"noughts, and a last byte":         append(make([]byte, api.BlockSize-1), 1),
	"noughts, a byte behind them":      {0, 0, 0, 1},
	"the number 2^64 - 1":              teller(math.MaxUint64, false, 0),
	"the number 2^64 - 1, a text":      teller(math.MaxUint64, true, 256),
	"a number in too many bytes":       {128, 1, 0, 0},
	"a number 0 in too many bytes":     {128, 0, 0, 0},
	"a number in nine bytes":           {255, 0, 0, 0, 0, 0, 0, 0, 1, 0, 0},
	"a truth 2":                        {1, 2, 0},
	"a truth 255":                      {1, 255, 0},
	"one byte above the room":          teller(1, false, 257),
	"one byte above it, second place":  teller(1, true, 257),
	"a length far above the room":      teller(1, false, 1<<20),
	"a length of 2^63":                 teller(1, false, 1<<63),
	"the greatest length":              teller(1, false, math.MaxUint64),
	"a length in too many bytes":       {1, 0, 128, 5},
	"a length in nine bytes":           {1, 1, 255, 0, 0, 0, 0, 0, 0, 0, 5},
	"bytes 255":                        bytes.Repeat([]byte{255}, api.BlockSize),
	"a text":                           []byte("something else, that was never laid by anybody as a teller is"),
	"the greatest number, a truth 255": append(teller(math.MaxUint64-1, false, 0)[:9], 255),
}

// TG1, TG2: a teller that is neither noughts nor begins with what a teller tells is ErrForm, ahead of ErrLong, and nothing is written.
func TestTellerWrong(t *testing.T) {
	a := toggle.Area{First: 1, Sectors: 10}
	for name, b := range wrong {
		d := device(t, 12)
		put(t, d, 1, b)
		t.Run(name, func(t *testing.T) {
			wantNoText(t, d, a, api.ErrForm)
			for _, length := range []int{0, 1, 256, 257} {
				wantErr(t, "Save", toggle.Save(d, a, make([]byte, length)), api.ErrForm)
			}
			if d.Writes() != 1 {
				t.Errorf("written %d times", d.Writes()-1)
			}
		})
	}
}

// TG1: what a teller may tell, to its edges, whatever stands behind; the bytes are the first ones of the place that counts.
func TestTellerRight(t *testing.T) {
	a := toggle.Area{First: 2, Sectors: 10}
	whole := [2]string{letters(1, 256), letters(2, 256)}
	d := device(t, 12)
	for i, first := range places(a) {
		for s := range 4 {
			put(t, d, first+s, []byte(whole[i][s*api.BlockSize:][:api.BlockSize]))
		}
	}
	for _, number := range []uint64{1, 2, 127, 128, 1<<32 - 1, 1 << 63, math.MaxUint64 - 2, math.MaxUint64 - 1} {
		for _, length := range []int{0, 1, 63, 64, 65, 127, 128, 129, 255, 256} {
			for second, truth := range []bool{false, true} {
				b := teller(number, truth, uint64(length))
				for _, sector := range [][]byte{b, behind(b), append(block(string(b))[:api.BlockSize-1], 9)} {
					put(t, d, 2, sector)
					wantText(t, d, a, whole[second][:length], number)
				}
			}
		}
	}
}

// TG1: the length that a teller may tell is the area's room.
func TestTellerOfRoom(t *testing.T) {
	for sectors := 3; sectors <= 12; sectors++ {
		d := device(t, 12)
		a := toggle.Area{First: 0, Sectors: sectors}
		room := toggle.Room(a)
		put(t, d, 0, teller(1, true, uint64(room)))
		wantText(t, d, a, string(make([]byte, room)), 1)
		put(t, d, 0, teller(1, true, uint64(room)+1))
		wantNoText(t, d, a, api.ErrForm)
	}
}

// TG1: what was written, and isn't safe yet, is loaded all the same, and loading writes nothing.
func TestLoadLoose(t *testing.T) {
	d := device(t, 9)
	a := toggle.Area{First: 0, Sectors: 9}
	must(t, d.Write(5, []byte("loose")))
	must(t, d.Write(0, teller(3, true, 5)))
	must(t, d.Arm(0))
	wantText(t, d, a, "loose", 3)
	if d.Writes() != 2 || len(d.Loose()) != 2 || d.Down() {
		t.Errorf("Load: Writes %d, Loose %v, Down %v", d.Writes(), d.Loose(), d.Down())
	}
}
