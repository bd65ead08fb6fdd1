package dev_test

import (
	"bytes"
	"errors"
	"math"
	"slices"
	"testing"

	"drydock/api"
	"drydock/dev"
)

// The calls as the chapter lists them.
var _ interface {
	Sectors() int
	Read(sector int) ([]byte, error)
	Write(sector int, b []byte) error
	Flush() error
	Loose() []int
	Arm(writes int) error
	Down() bool
	Start(kept []bool)
	Lose()
	Lost() bool
	Replace()
	Writes() int
} = (*dev.Dev)(nil)

// device is a new one of so many sectors.
func device(t *testing.T, sectors int) *dev.Dev {
	t.Helper()
	d, err := dev.New(sectors)
	if err != nil || d == nil {
		t.Fatalf("New(%d): %v, %v", sectors, d, err)
	}
	return d
}

// wantErr checks that an error is that number, found as the document asks; 0: none.
func wantErr(t *testing.T, what string, err error, want api.Errno) {
	t.Helper()
	if want == 0 {
		if err != nil {
			t.Errorf("%s: %v, want no error", what, err)
		}
		return
	}
	var got api.Errno
	if !errors.As(err, &got) || got != want {
		t.Errorf("%s: %v, want %v", what, err, want)
	}
}

// must checks that something was done.
func must(t *testing.T, err error) {
	t.Helper()
	if err != nil {
		t.Fatal(err)
	}
}

// block is a text, and noughts behind.
func block(text string) []byte {
	return append([]byte(text), make([]byte, api.BlockSize-len(text))...)
}

// wantText checks that a sector holds a text and noughts behind, and nothing else.
func wantText(t *testing.T, d *dev.Dev, sector int, text string) {
	t.Helper()
	b, err := d.Read(sector)
	if err != nil || !bytes.Equal(b, block(text)) {
		t.Errorf("Read(%d): %q, %v, want %q and noughts", sector, b, err, text)
	}
}

// wantLoose checks which sectors are not safe.
func wantLoose(t *testing.T, d *dev.Dev, want ...int) {
	t.Helper()
	if got := d.Loose(); !slices.Equal(got, want) {
		t.Errorf("Loose: %v, want %v", got, want)
	}
}

// wantState checks whether it is down, and whether lost.
func wantState(t *testing.T, d *dev.Dev, down, lost bool) {
	t.Helper()
	if d.Down() != down || d.Lost() != lost {
		t.Errorf("Down %v, Lost %v, want %v, %v", d.Down(), d.Lost(), down, lost)
	}
}

// wantDown checks that every call that can be refused is.
func wantDown(t *testing.T, d *dev.Dev) {
	t.Helper()
	b, err := d.Read(0)
	wantErr(t, "Read when down", err, api.ErrDown)
	if len(b) != 0 {
		t.Errorf("Read when down: %q beside an error", b)
	}
	wantErr(t, "Write when down", d.Write(0, []byte("x")), api.ErrDown)
	wantErr(t, "Flush when down", d.Flush(), api.ErrDown)
	wantErr(t, "Arm when down", d.Arm(1), api.ErrDown)
}

// crash lets a device crash at its next write.
func crash(t *testing.T, d *dev.Dev) {
	t.Helper()
	must(t, d.Arm(0))
	wantErr(t, "the write that crashes", d.Write(0, []byte("never")), api.ErrDown)
}

// DV1: how many sectors a device may have.
func TestNewBounds(t *testing.T) {
	for _, n := range []int{math.MinInt, -1, 0, api.MaxSectors + 1, math.MaxInt} {
		d, err := dev.New(n)
		wantErr(t, "New", err, api.ErrArg)
		if d != nil {
			t.Errorf("New(%d): a device beside an error", n)
		}
	}
	for _, n := range []int{1, 2, api.MaxSectors - 1, api.MaxSectors} {
		if got := device(t, n).Sectors(); got != n {
			t.Errorf("Sectors: %d, want %d", got, n)
		}
	}
}

// DV1: a new device is all noughts, and all safe.
func TestNewIsEmpty(t *testing.T) {
	d := device(t, 3)
	for i := range 3 {
		wantText(t, d, i, "")
	}
	wantLoose(t, d)
	wantState(t, d, false, false)
	if d.Writes() != 0 {
		t.Errorf("Writes: %d", d.Writes())
	}
	d.Start(nil)
	wantText(t, d, 0, "")
}

// DV1: sectors are numbered from 0 on, and there are no others.
func TestSectorBounds(t *testing.T) {
	for _, n := range []int{1, 5, api.MaxSectors} {
		d := device(t, n)
		for _, sector := range []int{math.MinInt, -1, n, n + 1, math.MaxInt} {
			b, err := d.Read(sector)
			wantErr(t, "Read outside", err, api.ErrRange)
			if len(b) != 0 {
				t.Errorf("Read(%d): %q beside an error", sector, b)
			}
			wantErr(t, "Write outside", d.Write(sector, []byte("x")), api.ErrRange)
		}
		wantLoose(t, d)
		must(t, d.Write(n-1, []byte("last")))
		wantText(t, d, n-1, "last")
		must(t, d.Write(0, []byte("first")))
		wantText(t, d, 0, "first")
	}
}

// DV1: what is written last is read, noughts behind, whether it is safe or not.
func TestWriteRead(t *testing.T) {
	d := device(t, 2)
	whole := string(bytes.Repeat([]byte("w"), api.BlockSize))
	for _, flush := range []bool{false, true} {
		for _, text := range []string{"a", whole, "short", "", whole[1:], "b\x00c\x00"} {
			must(t, d.Write(1, []byte(text)))
			if flush {
				must(t, d.Flush())
			}
			wantText(t, d, 1, text)
			wantText(t, d, 0, "")
		}
	}
	must(t, d.Write(1, nil))
	wantText(t, d, 1, "")
}

// DV1: a text that is longer than a block changes nothing.
func TestWriteLong(t *testing.T) {
	d := device(t, 1)
	must(t, d.Write(0, []byte("old")))
	must(t, d.Flush())
	for _, n := range []int{api.BlockSize + 1, 10 * api.BlockSize} {
		wantErr(t, "Write long", d.Write(0, make([]byte, n)), api.ErrLong)
	}
	wantText(t, d, 0, "old")
	wantLoose(t, d)
	must(t, d.Write(0, make([]byte, api.BlockSize)))
}

// DV1: of several errors the first one of down, outside, long is answered.
func TestErrorOrder(t *testing.T) {
	long := make([]byte, api.BlockSize+1)
	d := device(t, 2)
	wantErr(t, "outside and long", d.Write(2, long), api.ErrRange)
	must(t, d.Arm(0))
	wantErr(t, "outside, long, armed", d.Write(-1, long), api.ErrRange)
	wantErr(t, "long, armed", d.Write(0, long), api.ErrLong)
	wantState(t, d, false, false)
	wantErr(t, "armed", d.Write(0, nil), api.ErrDown)
	for _, lose := range []bool{false, true} {
		if lose {
			d.Lose()
		}
		wantErr(t, "down, outside, long", d.Write(2, long), api.ErrDown)
		wantErr(t, "down, long", d.Write(0, long), api.ErrDown)
		_, err := d.Read(2)
		wantErr(t, "down, outside", err, api.ErrDown)
		wantErr(t, "below 0, down", d.Arm(-1), api.ErrArg)
		wantErr(t, "down", d.Arm(0), api.ErrDown)
	}
}

// DV1: which sectors are not safe, ascending, each once; a flush makes all safe.
func TestLooseFlush(t *testing.T) {
	d := device(t, api.MaxSectors)
	for _, sector := range []int{api.MaxSectors - 1, 300, 5, 300, 0, 17} {
		must(t, d.Write(sector, []byte("x")))
	}
	wantLoose(t, d, 0, 5, 17, 300, api.MaxSectors-1)
	must(t, d.Flush())
	wantLoose(t, d)
	must(t, d.Flush())
	must(t, d.Write(5, []byte("x"))) // the same bytes again are written all the same
	wantLoose(t, d, 5)
	must(t, d.Flush())
	d.Start(nil)
	wantText(t, d, 5, "x")
	wantText(t, d, 300, "x")
}

// DV2: armed with a number of writes, so many are done, and the next one crashes it.
func TestArm(t *testing.T) {
	for _, n := range []int{0, 1, 2, 7} {
		d := device(t, 8)
		must(t, d.Arm(n))
		for i := range n {
			must(t, d.Write(i, []byte("done")))
			wantState(t, d, false, false)
		}
		wantErr(t, "the write behind", d.Write(n, []byte("lost")), api.ErrDown)
		wantState(t, d, true, false)
		wantDown(t, d)
		if d.Writes() != n {
			t.Errorf("Writes: %d, want %d", d.Writes(), n)
		}
		if len(d.Loose()) != n || d.Sectors() != 8 {
			t.Errorf("crashed: Loose %v, Sectors %d", d.Loose(), d.Sectors())
		}
		d.Start(slices.Repeat([]bool{true}, 8))
		for i := range n {
			wantText(t, d, i, "done")
		}
		wantText(t, d, n, "")
	}
}

// DV2: what else is asked, and writes that are refused, are no writes that count.
func TestArmCountsWritesAlone(t *testing.T) {
	d := device(t, 2)
	must(t, d.Arm(1))
	for range 3 {
		wantText(t, d, 0, "")
		must(t, d.Flush())
		wantErr(t, "outside", d.Write(2, nil), api.ErrRange)
		wantErr(t, "long", d.Write(0, make([]byte, api.BlockSize+1)), api.ErrLong)
	}
	must(t, d.Write(0, []byte("one")))
	wantErr(t, "outside, none left", d.Write(2, nil), api.ErrRange)
	must(t, d.Flush())
	wantText(t, d, 0, "one")
	wantState(t, d, false, false)
	wantErr(t, "none left", d.Write(0, nil), api.ErrDown)
	wantState(t, d, true, false)
}

// DV2: armed anew, the last number holds; below 0 nothing changes.
func TestArmAnew(t *testing.T) {
	d := device(t, 1)
	for _, n := range []int{-1, math.MinInt} {
		wantErr(t, "Arm below 0", d.Arm(n), api.ErrArg)
		must(t, d.Write(0, nil))
	}
	must(t, d.Arm(0))
	must(t, d.Arm(math.MaxInt))
	must(t, d.Write(0, nil))
	must(t, d.Arm(1))
	wantErr(t, "Arm below 0", d.Arm(-1), api.ErrArg)
	must(t, d.Write(0, nil))
	wantErr(t, "the write behind", d.Write(0, nil), api.ErrDown)
}

// DV2: of the loose sectors, ascending, those are kept for which the list says so.
func TestStartKept(t *testing.T) {
	for _, crashed := range []bool{false, true} {
		for _, kept := range [][]bool{
			nil, {}, {false}, {true}, {false, true}, {true, false, true}, {false, false, true},
			{true, true, true}, {false, true, false, true, true},
		} {
			d := device(t, 10)
			for i := range 10 {
				must(t, d.Write(i, []byte("old")))
			}
			must(t, d.Flush())
			loose := []int{2, 4, 9}
			for _, sector := range []int{9, 2, 4, 9} {
				must(t, d.Write(sector, []byte("mid")))
				must(t, d.Write(sector, []byte("new")))
			}
			if crashed {
				crash(t, d)
			}
			wantLoose(t, d, loose...)
			d.Start(kept)
			wantState(t, d, false, false)
			wantLoose(t, d)
			for range 2 { // all is safe: starting once more changes nothing
				for sector := range 10 {
					want := "old"
					if i := slices.Index(loose, sector); i >= 0 && i < len(kept) && kept[i] {
						want = "new"
					}
					wantText(t, d, sector, want)
				}
				d.Start(slices.Repeat([]bool{true}, 10))
			}
		}
	}
}

// DV2: started anew it is not armed any more, and writes again.
func TestStartDisarms(t *testing.T) {
	d := device(t, 1)
	must(t, d.Arm(0))
	d.Start(nil)
	must(t, d.Write(0, []byte("a")))
	crash(t, d)
	d.Start(nil)
	for range 3 {
		must(t, d.Write(0, []byte("b")))
	}
	wantText(t, d, 0, "b")
	if d.Writes() != 4 {
		t.Errorf("Writes: %d, want 4", d.Writes())
	}
}

// DV2: what is lost is down for good, and has nothing loose.
func TestLose(t *testing.T) {
	for _, crashed := range []bool{false, true} {
		d := device(t, 3)
		must(t, d.Write(0, []byte("safe")))
		must(t, d.Flush())
		must(t, d.Write(1, []byte("loose")))
		if crashed {
			crash(t, d)
		}
		d.Lose()
		for range 2 {
			wantState(t, d, true, true)
			wantDown(t, d)
			wantLoose(t, d)
			if d.Sectors() != 3 || d.Writes() != 2 {
				t.Errorf("lost: Sectors %d, Writes %d", d.Sectors(), d.Writes())
			}
			d.Start([]bool{true, true, true})
			d.Lose()
		}
	}
}

// DV2: in place of a lost one stands a new one; writes are counted on.
func TestReplaceLost(t *testing.T) {
	for _, crashed := range []bool{false, true} {
		d := device(t, 3)
		must(t, d.Write(0, []byte("safe")))
		must(t, d.Flush())
		must(t, d.Write(1, []byte("loose")))
		must(t, d.Arm(0))
		if crashed {
			crash(t, d)
		}
		d.Lose()
		d.Replace()
		wantState(t, d, false, false)
		wantLoose(t, d)
		if d.Sectors() != 3 || d.Writes() != 2 {
			t.Errorf("replaced: Sectors %d, Writes %d", d.Sectors(), d.Writes())
		}
		for range 2 {
			for sector := range 3 {
				wantText(t, d, sector, "")
			}
			d.Start([]bool{true, true, true})
		}
		must(t, d.Write(2, []byte("new")))
		must(t, d.Flush())
		must(t, d.Write(2, []byte("newer")))
		d.Start(nil)
		wantText(t, d, 2, "new")
		if d.Writes() != 4 {
			t.Errorf("Writes: %d, want 4", d.Writes())
		}
	}
}

// DV2: a replaced device is not armed, though the lost one was.
func TestReplaceDisarms(t *testing.T) {
	d := device(t, 1)
	must(t, d.Arm(0))
	d.Lose()
	d.Replace()
	must(t, d.Write(0, []byte("a")))
	wantText(t, d, 0, "a")
}

// DV2: of a device that is not lost nothing is replaced.
func TestReplaceNotLost(t *testing.T) {
	d := device(t, 2)
	must(t, d.Write(0, []byte("safe")))
	must(t, d.Flush())
	must(t, d.Write(1, []byte("loose")))
	must(t, d.Arm(0))
	d.Replace()
	wantText(t, d, 0, "safe")
	wantText(t, d, 1, "loose")
	wantLoose(t, d, 1)
	wantErr(t, "still armed", d.Write(0, nil), api.ErrDown)
	d.Replace()
	wantState(t, d, true, false)
	wantDown(t, d)
	d.Start([]bool{true})
	wantText(t, d, 0, "safe")
	wantText(t, d, 1, "loose")
}

// DV2: writes that are done are counted, whether they are kept or not, and no others.
func TestWrites(t *testing.T) {
	d := device(t, 2)
	for range 3 {
		must(t, d.Write(0, []byte("x")))
	}
	d.Write(2, nil)
	d.Write(0, make([]byte, api.BlockSize+1))
	must(t, d.Flush())
	crash(t, d)
	d.Write(0, nil)
	if d.Writes() != 3 {
		t.Errorf("Writes: %d, want 3", d.Writes())
	}
	d.Start(nil)
	if d.Writes() != 3 {
		t.Errorf("Writes behind Start: %d, want 3", d.Writes())
	}
	must(t, d.Write(1, nil))
	d.Lose()
	if d.Writes() != 4 {
		t.Errorf("Writes of a lost one: %d, want 4", d.Writes())
	}
}

// DV3: a nil device answers ErrArg, and nothing.
func TestNil(t *testing.T) {
	var d *dev.Dev
	for _, n := range []int{math.MinInt, -1, 0, 1, math.MaxInt} {
		b, err := d.Read(n)
		wantErr(t, "Read", err, api.ErrArg)
		if len(b) != 0 {
			t.Errorf("Read: %q", b)
		}
		wantErr(t, "Write", d.Write(n, make([]byte, api.BlockSize+1)), api.ErrArg)
		wantErr(t, "Arm", d.Arm(n), api.ErrArg)
	}
	wantErr(t, "Flush", d.Flush(), api.ErrArg)
	d.Start(nil)
	d.Start([]bool{true})
	d.Lose()
	d.Replace()
	wantLoose(t, d)
	wantState(t, d, false, false)
	if d.Sectors() != 0 || d.Writes() != 0 {
		t.Errorf("Sectors %d, Writes %d", d.Sectors(), d.Writes())
	}
}
