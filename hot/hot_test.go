package hot_test

import (
	"bytes"
	"errors"
	"math"
	"slices"
	"testing"

	"drydock/api"
	"drydock/dev"
	"drydock/hot"
)

// The calls as the chapter lists them.
var (
	_ func(*dev.Dev, hot.Config) (*hot.Hot, error)         = hot.New
	_ func(*dev.Dev, hot.Config, []byte) (*hot.Hot, error) = hot.Decode
	_                                                      = hot.Config{First: int(0), Count: int(1), Sectors: int(1)}
	_                                                      = hot.Loc{Box: int(0), From: int(0), Len: int(1), Sum: uint32(1)}
	_                                                      = []int{hot.Free, hot.Open, hot.Sealed, hot.Limbo}
	_ interface {
		Put(b []byte) (hot.Loc, error)
		Get(l hot.Loc) ([]byte, error)
		Drop(l hot.Loc) error
		Seal()
		Stat(box int) (int, int, int, error)
		Bytes(box int) ([]byte, error)
		Release(box int) error
		Settle()
		Room() int
		Encode() []byte
	} = (*hot.Hot)(nil)
)

// must checks that something was done.
func must(t *testing.T, err error) {
	t.Helper()
	if err != nil {
		t.Fatal(err)
	}
}

// wantErr checks that an error is that number, found as the document asks; 0: none.
func wantErr(t *testing.T, what string, err error, want api.Errno) {
	t.Helper()
	if want == 0 {
		if err != nil {
			t.Fatalf("%s: %v, want no error", what, err)
		}
		return
	}
	var got api.Errno
	if !errors.As(err, &got) || got != want {
		t.Fatalf("%s: %v, want %v", what, err, want)
	}
}

// wantBytes checks what bytes are answered.
func wantBytes(t *testing.T, what string, got, want []byte) {
	t.Helper()
	if !bytes.Equal(got, want) {
		t.Fatalf("%s: %v, want %v", what, got, want)
	}
}

// device is a new one of so many sectors.
func device(t *testing.T, sectors int) *dev.Dev {
	t.Helper()
	d, err := dev.New(sectors)
	must(t, err)
	return d
}

// disk is a new device that has these sectors, all safe.
func disk(t *testing.T, sectors []api.Block) *dev.Dev {
	t.Helper()
	d := device(t, len(sectors))
	for i, block := range sectors {
		must(t, d.Write(i, block[:]))
	}
	must(t, d.Flush())
	return d
}

// image are all sectors of a device.
func image(t *testing.T, d *dev.Dev) []api.Block {
	t.Helper()
	all := make([]api.Block, d.Sectors())
	for i := range all {
		b, err := d.Read(i)
		must(t, err)
		all[i] = api.Block(b)
	}
	return all
}

// old is so many sectors, each with bytes of its own, none of them a nought.
func old(sectors int) []api.Block {
	all := make([]api.Block, sectors)
	for i := range all {
		copy(all[i][:], letters(100+i, api.BlockSize))
	}
	return all
}

// letters is so many bytes, none of them a nought, of which no two sectors are the same.
func letters(seed, length int) []byte {
	b := make([]byte, length)
	for i := range b {
		b[i] = byte('!' + (seed*31+i*7+i/api.BlockSize)%90)
	}
	return b
}

// crash lets a device crash at its next write.
func crash(t *testing.T, d *dev.Dev) {
	t.Helper()
	must(t, d.Arm(0))
	wantErr(t, "the write that crashes", d.Write(0, []byte("never")), api.ErrDown)
}

// made is boxes that are free.
func made(t *testing.T, d *dev.Dev, c hot.Config) *hot.Hot {
	t.Helper()
	h, err := hot.New(d, c)
	must(t, err)
	return h
}

// known is boxes of which that is known.
func known(t *testing.T, d *dev.Dev, c hot.Config, boxes ...box) *hot.Hot {
	t.Helper()
	h, err := hot.Decode(d, c, encoded(boxes...))
	must(t, err)
	return h
}

// put puts bytes, and checks where they lie.
func put(t *testing.T, h *hot.Hot, b []byte, i, from int) hot.Loc {
	t.Helper()
	got, err := h.Put(b)
	if want := (hot.Loc{Box: i, From: from, Len: len(b), Sum: sumOf(b)}); got != want || err != nil {
		t.Fatalf("Put of %d bytes: %v, %v, want %v", len(b), got, err, want)
	}
	return got
}

// wantNoPut checks that Put answers an error, and nothing beside it.
func wantNoPut(t *testing.T, h *hot.Hot, b []byte, want api.Errno) {
	t.Helper()
	got, err := h.Put(b)
	wantErr(t, "Put", err, want)
	if got != (hot.Loc{}) {
		t.Fatalf("Put: %v beside an error", got)
	}
}

// wantGet checks which bytes lie somewhere.
func wantGet(t *testing.T, h *hot.Hot, l hot.Loc, want []byte) {
	t.Helper()
	got, err := h.Get(l)
	must(t, err)
	wantBytes(t, "Get", got, want)
}

// wantNoGet checks that Get answers an error, and nothing beside it.
func wantNoGet(t *testing.T, h *hot.Hot, l hot.Loc, want api.Errno) {
	t.Helper()
	got, err := h.Get(l)
	wantErr(t, "Get", err, want)
	wantBytes(t, "Get beside an error", got, nil)
}

// wantAll checks all bytes of a box.
func wantAll(t *testing.T, h *hot.Hot, i int, want []byte) {
	t.Helper()
	got, err := h.Bytes(i)
	must(t, err)
	wantBytes(t, "Bytes", got, want)
}

// wantNotAll checks that Bytes answers an error, and nothing beside it.
func wantNotAll(t *testing.T, h *hot.Hot, i int, want api.Errno) {
	t.Helper()
	got, err := h.Bytes(i)
	wantErr(t, "Bytes", err, want)
	wantBytes(t, "Bytes beside an error", got, nil)
}

// wantNoStat checks that Stat answers an error, and nothing beside it.
func wantNoStat(t *testing.T, h *hot.Hot, i int, want api.Errno) {
	t.Helper()
	state, bytes, useful, err := h.Stat(i)
	wantErr(t, "Stat", err, want)
	if (box{state, bytes, useful}) != (box{}) {
		t.Fatalf("Stat: %d, %d, %d beside an error", state, bytes, useful)
	}
}

// wantBoxes checks which boxes there are.
func wantBoxes(t *testing.T, h *hot.Hot, want ...box) {
	t.Helper()
	for i, want := range want {
		state, bytes, useful, err := h.Stat(i)
		if got := (box{state, bytes, useful}); got != want || err != nil {
			t.Fatalf("Stat of box %d: %v, %v, want %v", i, got, err, want)
		}
	}
	wantNoStat(t, h, -1, api.ErrRange)
	wantNoStat(t, h, len(want), api.ErrRange)
}

// wantRoom checks how much room there is.
func wantRoom(t *testing.T, h *hot.Hot, want int) {
	t.Helper()
	if got := h.Room(); got != want {
		t.Fatalf("Room: %d, want %d", got, want)
	}
}

// wantSafe checks that nothing was written since the device was flushed.
func wantSafe(t *testing.T, d *dev.Dev) {
	t.Helper()
	if loose := d.Loose(); len(loose) > 0 {
		t.Fatalf("%v were written", loose)
	}
}

// edges are numbers at which something may end.
var edges = []int{math.MinInt, math.MinInt + 1, math.MinInt32, -65, -64, -63, -1, 0, 1, 2, 3, 63, 64, 65, 127, 128, 129, 1023, 1024, 1025, 1<<14 - 1, 1 << 14, 1<<14 + 1, 1<<16 - 1, 1 << 16, 1<<16 + 1, 1<<31 - 1, 1 << 31, 1<<32 + 1, 1<<58 + 1, 1 << 62, math.MaxInt - 64, math.MaxInt - 1, math.MaxInt}

// HT1: the chapter's example.
func TestExample(t *testing.T) {
	h := made(t, device(t, 2), hot.Config{Count: 2, Sectors: 1})
	put(t, h, make([]byte, 40), 0, 0)
	put(t, h, make([]byte, 40), 1, 0)
	wantBoxes(t, h, box{hot.Sealed, 40, 40}, box{hot.Open, 40, 40})
}

// The words number the states.
func TestStates(t *testing.T) {
	if got := []int{hot.Free, hot.Open, hot.Sealed, hot.Limbo}; !slices.Equal(got, []int{0, 1, 2, 3}) {
		t.Errorf("the states: %v", got)
	}
}

// HT1: the boxes lie in the device, and are neither too many, nor too great.
func TestNew(t *testing.T) {
	for _, c := range []struct {
		sectors int
		c       hot.Config
		want    api.Errno
	}{
		{1, hot.Config{First: 0, Count: 1, Sectors: 1}, 0},
		{1, hot.Config{First: 1, Count: 1, Sectors: 1}, api.ErrArg},
		{1, hot.Config{First: -1, Count: 1, Sectors: 1}, api.ErrArg},
		{9, hot.Config{First: -1, Count: 1, Sectors: 1}, api.ErrArg},
		{9, hot.Config{First: 0, Count: 0, Sectors: 1}, api.ErrArg},
		{9, hot.Config{First: 0, Count: -1, Sectors: 1}, api.ErrArg},
		{9, hot.Config{First: 0, Count: 1, Sectors: 0}, api.ErrArg},
		{9, hot.Config{First: 0, Count: 1, Sectors: -1}, api.ErrArg},
		{9, hot.Config{First: 0, Count: -1, Sectors: -1}, api.ErrArg},
		{9, hot.Config{First: 0, Count: 3, Sectors: 3}, 0},
		{9, hot.Config{First: 1, Count: 3, Sectors: 3}, api.ErrArg},
		{8, hot.Config{First: 0, Count: 3, Sectors: 3}, api.ErrArg},
		{10, hot.Config{First: 1, Count: 3, Sectors: 3}, 0},
		{9, hot.Config{First: 8, Count: 1, Sectors: 1}, 0},
		{9, hot.Config{First: 9, Count: 1, Sectors: 1}, api.ErrArg},
		{9, hot.Config{First: 0, Count: 1, Sectors: 9}, 0},
		{9, hot.Config{First: 0, Count: 9, Sectors: 1}, 0},
		{9, hot.Config{First: 0, Count: 10, Sectors: 1}, api.ErrArg},
		{9, hot.Config{First: 0, Count: 1, Sectors: 10}, api.ErrArg},
		{1024, hot.Config{First: 0, Count: mostBoxes, Sectors: 1}, 0},
		{1025, hot.Config{First: 0, Count: mostBoxes + 1, Sectors: 1}, api.ErrArg},
		{1024, hot.Config{First: 0, Count: 1, Sectors: mostSectors}, 0},
		{1025, hot.Config{First: 0, Count: 1, Sectors: mostSectors + 1}, api.ErrArg},
		{1 << 14, hot.Config{First: 0, Count: 16, Sectors: mostSectors}, 0},
		{1 << 14, hot.Config{First: 0, Count: 17, Sectors: mostSectors}, api.ErrArg},
		{1 << 14, hot.Config{First: 0, Count: mostBoxes, Sectors: 16}, 0},
		{1 << 14, hot.Config{First: 1, Count: mostBoxes, Sectors: 16}, api.ErrArg},
		{1 << 14, hot.Config{First: 0, Count: mostBoxes, Sectors: mostSectors}, api.ErrArg},
		{9, hot.Config{First: math.MaxInt, Count: 1, Sectors: 1}, api.ErrArg},
		{9, hot.Config{First: math.MaxInt - 8, Count: 3, Sectors: 3}, api.ErrArg},
		{9, hot.Config{First: 0, Count: 1 << 32, Sectors: 1 << 32}, api.ErrArg},
		{9, hot.Config{First: 0, Count: math.MaxInt, Sectors: 2}, api.ErrArg},
		{9, hot.Config{First: 0, Count: math.MinInt, Sectors: 2}, api.ErrArg},
	} {
		h, err := hot.New(device(t, c.sectors), c.c)
		wantErr(t, "New", err, c.want)
		if c.want != 0 && h != nil {
			t.Fatalf("New(%v): %v beside an error", c.c, h)
		}
	}
}

// HT1: of all edges just those are taken of which the words tell no error.
func TestNewEdges(t *testing.T) {
	for _, sectors := range []int{1, 64, 1025, 1 << 14} {
		d := device(t, sectors)
		for _, first := range append(edges, sectors-65, sectors-1) {
			for _, count := range edges {
				for _, size := range edges {
					can := first >= 0 && first <= sectors && count >= 1 && count <= mostBoxes && size >= 1 && size <= mostSectors && first+count*size <= sectors
					h, err := hot.New(d, hot.Config{First: first, Count: count, Sectors: size})
					if can != (err == nil) || can != (h != nil) {
						t.Fatalf("New of %d, %d, %d in %d: %v", first, count, size, sectors, err)
					}
					if err != nil {
						wantErr(t, "New", err, api.ErrArg)
					}
				}
			}
		}
	}
}

// HT1: all boxes are free, whatever stands on the device, which is not written.
func TestNewFree(t *testing.T) {
	d := disk(t, old(12))
	h := made(t, d, hot.Config{First: 2, Count: 3, Sectors: 3})
	wantBoxes(t, h, box{}, box{}, box{})
	wantRoom(t, h, 9*64)
	wantSafe(t, d)
	if !slices.Equal(image(t, d), old(12)) {
		t.Error("the device is changed")
	}
	boxes := make([]box, mostBoxes)
	h = made(t, device(t, 1<<14), hot.Config{Count: mostBoxes, Sectors: 16})
	wantBoxes(t, h, boxes...)
	wantRoom(t, h, 1<<20)
}

// HT1: no device has no room for boxes; one that is down has.
func TestNewDevice(t *testing.T) {
	for _, c := range []hot.Config{{}, {Count: 1}, {Count: 1, Sectors: 1}, {First: -1, Count: 1, Sectors: 1}, {First: -9, Count: 3, Sectors: 3}} {
		h, err := hot.New(nil, c)
		wantErr(t, "New", err, api.ErrArg)
		if h != nil {
			t.Fatal("a Hot beside an error")
		}
	}
	d := device(t, 9)
	crash(t, d)
	wantBoxes(t, made(t, d, hot.Config{Count: 3, Sectors: 3}), box{}, box{}, box{})
	d.Lose()
	wantBoxes(t, made(t, d, hot.Config{Count: 3, Sectors: 3}), box{}, box{}, box{})
	_, err := hot.New(d, hot.Config{Count: 10, Sectors: 1})
	wantErr(t, "New", err, api.ErrArg)
}

// HT3: no Hot has nothing.
func TestNilHot(t *testing.T) {
	var h *hot.Hot
	for _, b := range [][]byte{nil, {}, {1}, make([]byte, 1<<16), make([]byte, 1<<16+1)} {
		wantNoPut(t, h, b, api.ErrArg)
	}
	for _, n := range edges {
		for _, l := range []hot.Loc{{}, {Len: 1}, {Box: n, Len: 1}, {From: n, Len: 1}, {Len: n}, {Len: 1, Sum: uint32(n)}} {
			wantNoGet(t, h, l, api.ErrArg)
			wantErr(t, "Drop", h.Drop(l), api.ErrArg)
		}
		wantNoStat(t, h, n, api.ErrArg)
		wantNotAll(t, h, n, api.ErrArg)
		wantErr(t, "Release", h.Release(n), api.ErrArg)
	}
	h.Seal()
	h.Settle()
	wantRoom(t, h, 0)
	wantBytes(t, "Encode", h.Encode(), nil)
}
