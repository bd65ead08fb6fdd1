package hot_test

import (
	"slices"
	"testing"

	"drydock/api"
	"drydock/dev"
	"drydock/hot"
)

// goDown are the ways a device can be down.
var goDown = []func(t *testing.T, d *dev.Dev){
	crash,
	func(t *testing.T, d *dev.Dev) { d.Lose() },
	func(t *testing.T, d *dev.Dev) { crash(t, d); d.Lose() },
}

// kinds are which of so many sectors are kept: all that there are.
func kinds(loose int) [][]bool {
	var all [][]bool
	for bits := range 1 << loose {
		kept := make([]bool, loose)
		for i := range kept {
			kept[i] = bits>>i&1 != 0
		}
		all = append(all, kept)
	}
	return all
}

// HT1, HT2: of a device that is down nothing is read and nothing written; what is known of the boxes goes on.
func TestDown(t *testing.T) {
	for _, down := range goDown {
		d := device(t, 8)
		h := made(t, d, hot.Config{Count: 4, Sectors: 2})
		one, two := put(t, h, letters(1, 100), 0, 0), put(t, h, letters(2, 60), 1, 0)
		must(t, d.Flush())
		down(t, d)
		for _, l := range []hot.Loc{one, two, {Box: 1, From: 59, Len: 1}, {Box: 0, Len: 1, Sum: 5}} {
			wantNoGet(t, h, l, api.ErrDown) // ahead of another sum
		}
		for _, l := range []hot.Loc{{Box: -1, Len: 1}, {Box: 2, Len: 1}, {Box: 4, Len: 1}, {Box: 1, From: 59, Len: 2}, {Box: 1}, {Box: 1, From: -1, Len: 1}} {
			wantNoGet(t, h, l, api.ErrRange) // and behind a wrong place
		}
		wantNotAll(t, h, 0, api.ErrDown)
		wantNotAll(t, h, 1, api.ErrDown)
		wantNotAll(t, h, 2, api.ErrRange)
		wantNotAll(t, h, 4, api.ErrRange)
		must(t, h.Drop(one))
		wantErr(t, "Drop", h.Drop(one), api.ErrRange)
		must(t, h.Release(0))
		wantErr(t, "Release", h.Release(1), api.ErrRange)
		wantBoxes(t, h, box{limbo, 100, 0}, box{open, 60, 60}, box{}, box{})
		h.Seal()
		h.Settle()
		wantBoxes(t, h, box{}, box{sealed, 60, 60}, box{}, box{})
		wantRoom(t, h, 3*128)
		wantTold(t, d, hot.Config{Count: 4, Sectors: 2}, h.Encode())
	}
}

// HT1: what a Put into a device that is down leaves: the box that it opened is open, and has nothing; what has room in the open box leaves all as it was.
func TestPutDown(t *testing.T) {
	for _, down := range goDown {
		d := device(t, 3)
		h := made(t, d, hot.Config{Count: 3, Sectors: 1})
		down(t, d)
		for range 3 {
			wantNoPut(t, h, letters(1, 50), api.ErrDown)
			wantBoxes(t, h, box{open, 0, 0}, box{}, box{})
			wantRoom(t, h, 192)
		}
		h = known(t, d, hot.Config{Count: 3, Sectors: 1}, box{sealed, 3, 3}, box{open, 14, 5}, box{})
		for range 2 {
			wantNoPut(t, h, letters(1, 50), api.ErrDown)
			wantBoxes(t, h, box{sealed, 3, 3}, box{open, 14, 5}, box{})
		}
		for n := 51; n <= 64; n++ {
			wantNoPut(t, h, letters(1, n), api.ErrDown)
			wantBoxes(t, h, box{sealed, 3, 3}, box{sealed, 14, 5}, box{open, 0, 0})
			wantRoom(t, h, 64)
		}
		wantAll(t, h, 2, nil) // of a box that has no bytes nothing is read
		h.Seal()
		wantNoPut(t, h, letters(1, 1), api.ErrFull) // ahead of the device
		wantBoxes(t, h, box{sealed, 3, 3}, box{sealed, 14, 5}, box{sealed, 0, 0})
		must(t, h.Release(2))
		h.Settle()
		wantNoPut(t, h, letters(1, 1), api.ErrDown)
		wantBoxes(t, h, box{sealed, 3, 3}, box{sealed, 14, 5}, box{open, 0, 0})
	}
}

// HT1, HT4: a crash in the midst of a Put, behind each count of writes, whichever sectors are kept: the box has the bytes that it had, stays open, and goes on from there.
func TestPutCrash(t *testing.T) {
	for _, from := range []int{0, 1, 63, 64, 65, 100} {
		for _, n := range []int{1, 28, 64, 92, 156} {
			for writes := 0; writes <= (from+n-1)/64-from/64; writes++ {
				for _, kept := range kinds(writes) {
					putCrash(t, from, n, writes, kept)
				}
			}
		}
	}
}

// putCrash puts some bytes, which are flushed, and then others, while the device crashes.
func putCrash(t *testing.T, from, n, writes int, kept []bool) {
	t.Helper()
	d := disk(t, old(12))
	h := made(t, d, hot.Config{First: 2, Count: 2, Sectors: 5})
	var l hot.Loc
	var first []byte
	if from > 0 {
		first = letters(1, from)
		l = put(t, h, first, 0, 0)
		must(t, h.Drop(hot.Loc{Len: 1}))
		must(t, d.Flush())
	}
	had := box{open, from, max(0, from-1)}
	must(t, d.Arm(writes))
	wantNoPut(t, h, letters(2, n), api.ErrDown)
	wantBoxes(t, h, had, box{})
	wantRoom(t, h, 10*64-from)
	wantNoPut(t, h, letters(2, n), api.ErrDown)
	wantBoxes(t, h, had, box{})
	d.Start(kept)
	wantAll(t, h, 0, first)
	if from > 0 {
		wantGet(t, h, l, first)
	}
	third := letters(3, n)
	wantGet(t, h, put(t, h, third, 0, from), third)
	wantAll(t, h, 0, slices.Concat(first, third))
	wantBoxes(t, h, box{open, from + n, had.useful + n}, box{})
}

// HT1: a crash in the midst of a Put that has opened a box: the one ahead is sealed, the new one is open and empty.
func TestPutCrashNext(t *testing.T) {
	for writes := range 2 {
		d := device(t, 6)
		h := made(t, d, hot.Config{Count: 3, Sectors: 2})
		one := put(t, h, letters(1, 100), 0, 0)
		must(t, d.Flush())
		must(t, d.Arm(writes))
		wantNoPut(t, h, letters(2, 100), api.ErrDown)
		wantBoxes(t, h, box{sealed, 100, 100}, box{open, 0, 0}, box{})
		d.Start(nil)
		two := put(t, h, letters(2, 100), 1, 0)
		wantGet(t, h, one, letters(1, 100))
		wantGet(t, h, two, letters(2, 100))
		wantBoxes(t, h, box{sealed, 100, 100}, box{open, 100, 100}, box{})
	}
}

// HT2: what was lost in a crash, or with a device that was replaced, is told by its sum.
func TestLost(t *testing.T) {
	d := device(t, 4)
	h := made(t, d, hot.Config{Count: 1, Sectors: 4})
	one := put(t, h, letters(1, 50), 0, 0)
	must(t, d.Flush())
	two, three := put(t, h, letters(2, 10), 0, 50), put(t, h, letters(3, 100), 0, 60)
	d.Start([]bool{true, true, false})
	wantGet(t, h, one, letters(1, 50))
	wantGet(t, h, two, letters(2, 10))
	wantNoGet(t, h, three, api.ErrSum)
	d.Lose()
	d.Replace()
	for _, l := range []hot.Loc{one, two, three} {
		wantNoGet(t, h, l, api.ErrSum)
	}
	wantAll(t, h, 0, make([]byte, 160))
	four := put(t, h, letters(4, 5), 0, 160)
	wantGet(t, h, four, letters(4, 5))
}
