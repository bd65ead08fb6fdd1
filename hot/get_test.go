package hot_test

import (
	"math"
	"slices"
	"testing"

	"drydock/api"
	"drydock/hot"
)

// shown are four boxes of two sectors, one of each state, all but the free one with 100 bytes, of which the open and the sealed one have 60 that are of use; and what stands on the device, from sector 3 on.
func shown(t *testing.T) (*hot.Hot, []byte) {
	t.Helper()
	all := letters(5, 4*128)
	blocks := make([]api.Block, 12)
	for i := range 8 {
		copy(blocks[3+i][:], all[64*i:])
	}
	h := known(t, disk(t, blocks), hot.Config{First: 3, Count: 4, Sectors: 2}, box{}, box{open, 100, 60}, box{sealed, 100, 60}, box{limbo, 100, 0})
	return h, all
}

// locOf is where some bytes of those lie, with their sum, if there are such.
func locOf(all []byte, i, from, n int) hot.Loc {
	l := hot.Loc{Box: i, From: from, Len: n}
	if at := 128*i + from; i >= 0 && i < 4 && from >= 0 && from < 128 && n >= 0 && n <= len(all)-at {
		l.Sum = sumOf(all[at:][:n])
	}
	return l
}

// HT2: of each place in a box of each state just those bytes are got that were laid in; there is no other place.
func TestGetPlaces(t *testing.T) {
	h, all := shown(t)
	for i := -1; i < 5; i++ {
		for from := -1; from <= 129; from++ {
			for n := -1; n <= 129; n++ {
				l := locOf(all, i, from, n)
				if i >= 1 && i <= 3 && from >= 0 && n >= 1 && from+n <= 100 {
					wantGet(t, h, l, all[128*i+from:][:n])
				} else {
					wantNoGet(t, h, l, api.ErrRange)
				}
			}
		}
	}
}

// HT2: numbers however great, or far below 0, are no places, of Get and of Drop.
func TestGetEdges(t *testing.T) {
	h, all := shown(t)
	numbers := append(slices.Clone(edges), 36, 40, 99, 100, 101, math.MaxInt-99, math.MaxInt-100, math.MinInt+100)
	for _, i := range append(edges, 3, 4) {
		for _, from := range numbers {
			for _, n := range numbers {
				l := locOf(all, i, from, n)
				if i >= 1 && i <= 3 && from >= 0 && from <= 100 && n >= 1 && n <= 100-from {
					wantGet(t, h, l, all[128*i+from:][:n])
					continue
				}
				wantNoGet(t, h, l, api.ErrRange)
				wantErr(t, "Drop", h.Drop(l), api.ErrRange)
			}
		}
	}
	wantBoxes(t, h, box{}, box{open, 100, 60}, box{sealed, 100, 60}, box{limbo, 100, 0})
}

// HT2: another sum, of each state of a box; bytes that are none of the box' have no sum at all.
func TestGetSum(t *testing.T) {
	h, all := shown(t)
	for i := range 4 {
		l := locOf(all, i, 30, 50)
		for bit := range 32 {
			other := l
			other.Sum ^= 1 << bit
			want := api.ErrSum
			if i == 0 {
				want = api.ErrRange
			}
			wantNoGet(t, h, other, want)
			other.Len = 71
			wantNoGet(t, h, other, api.ErrRange)
		}
	}
	h = made(t, device(t, 1), hot.Config{Count: 1, Sectors: 1})
	l := put(t, h, []byte("ab"), 0, 0)
	for _, sum := range []uint32{0, 1, l.Sum + 1, l.Sum - 1, l.Sum + modulus, -l.Sum, math.MaxUint32} {
		l.Sum = sum // the same number again by the modulus is another one
		wantNoGet(t, h, l, api.ErrSum)
	}
}

// HT2: that bytes of the device are other ones is told by their sum.
func TestGetOther(t *testing.T) {
	d := device(t, 5)
	h := made(t, d, hot.Config{First: 1, Count: 1, Sectors: 4})
	put(t, h, letters(1, 50), 0, 0)
	b := letters(2, 100)
	l := put(t, h, b, 0, 50)
	put(t, h, letters(3, 70), 0, 150)
	before := image(t, d)
	for at := range 5 * 64 {
		block := before[at/64]
		block[at%64] ^= 1 + byte(at)%255
		must(t, d.Write(at/64, block[:]))
		if at >= 64+50 && at < 64+150 {
			wantNoGet(t, h, l, api.ErrSum)
		} else {
			wantGet(t, h, l, b)
		}
		must(t, d.Write(at/64, before[at/64][:]))
	}
	wantGet(t, h, l, b)
}

// HT2: bytes are got in other parts than they were put, with the sums of these.
func TestGetParts(t *testing.T) {
	h := made(t, device(t, 3), hot.Config{Count: 1, Sectors: 3})
	var all []byte
	for i, n := range []int{1, 62, 1, 64, 3, 61} {
		b := letters(i, n)
		put(t, h, b, 0, len(all))
		all = append(all, b...)
	}
	for from := range all {
		for n := 1; n <= len(all)-from; n++ {
			b := all[from:][:n]
			wantGet(t, h, hot.Loc{From: from, Len: n, Sum: sumOf(b)}, b)
		}
	}
	wantAll(t, h, 0, all)
}

// HT2: Drop takes off of what is useful: as many bytes as there are, not one more; whatever their sum, and whether they can be read or not.
func TestDrop(t *testing.T) {
	for n := 1; n <= 100; n++ {
		for _, sum := range []uint32{0, 1, math.MaxUint32} {
			h, _ := shown(t)
			want := []box{{}, {open, 100, 60}, {sealed, 100, 60}, {limbo, 100, 0}}
			for i := range 4 {
				l := hot.Loc{Box: i, From: 100 - n, Len: n, Sum: sum}
				if n > 60 || i == 0 || i == 3 {
					wantErr(t, "Drop", h.Drop(l), api.ErrRange)
				} else {
					must(t, h.Drop(l))
					want[i].useful -= n
				}
				wantBoxes(t, h, want...)
			}
		}
	}
}

// HT2: the same bytes may be dropped again, as long as so many are useful; then they are got still.
func TestDropAgain(t *testing.T) {
	d := device(t, 2)
	h := made(t, d, hot.Config{Count: 1, Sectors: 2})
	one, two := put(t, h, letters(1, 30), 0, 0), put(t, h, letters(2, 70), 0, 30)
	writes := d.Writes()
	for _, useful := range []int{70, 40, 10} {
		must(t, h.Drop(one))
		wantBoxes(t, h, box{open, 100, useful})
	}
	for range 2 {
		wantErr(t, "Drop", h.Drop(one), api.ErrRange)
		wantErr(t, "Drop", h.Drop(two), api.ErrRange)
		wantErr(t, "Drop", h.Drop(hot.Loc{Len: 11}), api.ErrRange)
		wantBoxes(t, h, box{open, 100, 10})
	}
	must(t, h.Drop(hot.Loc{From: 90, Len: 10}))
	wantBoxes(t, h, box{open, 100, 0})
	wantErr(t, "Drop", h.Drop(hot.Loc{Len: 1}), api.ErrRange)
	wantGet(t, h, one, letters(1, 30))
	wantGet(t, h, two, letters(2, 70))
	wantRoom(t, h, 28)
	put(t, h, letters(3, 5), 0, 100) // what is put behind is useful
	wantBoxes(t, h, box{open, 105, 5})
	if d.Writes() != writes+1 {
		t.Error("Drop writes")
	}
}

// HT2: Stat, Bytes and Release of numbers of which there is no box.
func TestNoBox(t *testing.T) {
	h, _ := shown(t)
	for _, i := range append([]int{4, 5, 12, -4}, edges...) {
		if i >= 0 && i < 4 {
			continue
		}
		wantNoStat(t, h, i, api.ErrRange)
		wantNotAll(t, h, i, api.ErrRange)
		wantErr(t, "Release", h.Release(i), api.ErrRange)
	}
	wantBoxes(t, h, box{}, box{open, 100, 60}, box{sealed, 100, 60}, box{limbo, 100, 0})
}

// HT2: all bytes of a box, of each state, however many there are.
func TestBytes(t *testing.T) {
	h, all := shown(t)
	wantNotAll(t, h, 0, api.ErrRange)
	for i := 1; i < 4; i++ {
		wantAll(t, h, i, all[128*i:][:100])
	}
	for n := range 193 {
		d := disk(t, old(8))
		var stands []byte
		for _, block := range image(t, d)[5:] {
			stands = append(stands, block[:]...)
		}
		h := known(t, d, hot.Config{First: 2, Count: 2, Sectors: 3}, box{}, box{1 + n%3, n, 0})
		wantAll(t, h, 1, stands[:n])
		wantSafe(t, d)
	}
}

// HT2: all bytes of a box are those of each Put, whatever was dropped.
func TestBytesPut(t *testing.T) {
	h := made(t, device(t, 9), hot.Config{First: 3, Count: 2, Sectors: 3})
	var laid []byte
	for i := 0; len(laid) < 150; i++ {
		b := letters(i, 1+i*5)
		l := put(t, h, b, 0, len(laid))
		laid = append(laid, b...)
		wantAll(t, h, 0, laid)
		must(t, h.Drop(l))
		wantAll(t, h, 0, laid)
	}
	h.Seal()
	wantAll(t, h, 0, laid)
	must(t, h.Release(0))
	wantAll(t, h, 0, laid)
	h.Settle()
	wantNotAll(t, h, 0, api.ErrRange)
}

// HT2: only a sealed box is released; it keeps its bytes, of which none is of use.
func TestRelease(t *testing.T) {
	for _, boxes := range all(3, box{}, box{open, 5, 5}, box{sealed, 50, 20}, box{sealed, 0, 0}, box{sealed, 64, 64}, box{limbo, 5, 0}) {
		for i := range 3 {
			d := disk(t, old(3))
			h := known(t, d, hot.Config{Count: 3, Sectors: 1}, boxes...)
			want, room := slices.Clone(boxes), h.Room()
			if want[i].state == sealed {
				must(t, h.Release(i))
				want[i] = box{limbo, want[i].bytes, 0}
			} else {
				wantErr(t, "Release", h.Release(i), api.ErrRange)
			}
			wantBoxes(t, h, want...)
			wantErr(t, "Release again", h.Release(i), api.ErrRange)
			wantBoxes(t, h, want...)
			wantRoom(t, h, room)
			wantSafe(t, d)
			wantImage(t, d, old(3))
		}
	}
}

// HT2: what is in a box in limbo is got, but not dropped.
func TestReleased(t *testing.T) {
	h := made(t, device(t, 2), hot.Config{Count: 2, Sectors: 1})
	l := put(t, h, letters(1, 40), 0, 0)
	h.Seal()
	must(t, h.Release(0))
	wantGet(t, h, l, letters(1, 40))
	wantAll(t, h, 0, letters(1, 40))
	wantErr(t, "Drop", h.Drop(l), api.ErrRange)
	wantErr(t, "Drop", h.Drop(hot.Loc{Len: 1}), api.ErrRange)
	wantBoxes(t, h, box{limbo, 40, 0}, box{})
	h.Settle()
	wantNoGet(t, h, l, api.ErrRange)
	wantErr(t, "Drop", h.Drop(l), api.ErrRange)
	put(t, h, letters(2, 20), 0, 0)
	wantNoGet(t, h, l, api.ErrRange) // it has not so many bytes any more
	put(t, h, letters(3, 20), 0, 20)
	wantNoGet(t, h, l, api.ErrSum) // and then other ones
}

// HT2: Settle frees all boxes that are in limbo, and no other.
func TestSettle(t *testing.T) {
	for _, boxes := range all(4, box{}, box{open, 5, 5}, box{sealed, 50, 0}, box{limbo, 5, 0}, box{limbo, 64, 0}) {
		d := disk(t, old(4))
		h := known(t, d, hot.Config{Count: 4, Sectors: 1}, boxes...)
		want, room := slices.Clone(boxes), 0
		for i, x := range want {
			switch x.state {
			case limbo:
				want[i] = box{}
				room += 64
			case free:
				room += 64
			case open:
				room += 59
			}
		}
		for range 2 {
			h.Settle()
			wantBoxes(t, h, want...)
			wantRoom(t, h, room)
		}
		wantSafe(t, d)
		wantImage(t, d, old(4))
	}
}

// HT2: of many boxes, too.
func TestSettleMany(t *testing.T) {
	h := made(t, device(t, mostBoxes), hot.Config{Count: mostBoxes, Sectors: 1})
	want := make([]box, mostBoxes)
	for i := range mostBoxes {
		put(t, h, letters(i, 64), i, 0)
		wantRoom(t, h, (mostBoxes-1-i)*64)
		want[i] = box{sealed, 64, 64}
	}
	h.Seal()
	for i := range mostBoxes {
		if i%3 > 0 {
			must(t, h.Release(i))
			want[i] = box{}
		}
	}
	wantRoom(t, h, 0)
	wantNoPut(t, h, []byte("a"), api.ErrFull)
	h.Settle()
	wantBoxes(t, h, want...)
	wantRoom(t, h, 682*64)
	put(t, h, letters(1, 64), 1, 0)
	put(t, h, letters(2, 64), 2, 0)
	put(t, h, letters(4, 64), 4, 0)
}

// HT2: the room that the open box has, and all free ones, behind each call.
func TestRoom(t *testing.T) {
	h := made(t, device(t, 6), hot.Config{Count: 3, Sectors: 2})
	wantRoom(t, h, 384)
	l := put(t, h, letters(1, 100), 0, 0)
	wantRoom(t, h, 284)
	put(t, h, letters(2, 28), 0, 100)
	wantRoom(t, h, 256)
	put(t, h, letters(3, 29), 1, 0)
	wantRoom(t, h, 227)
	put(t, h, letters(4, 100), 2, 0) // the 99 bytes that the box 1 has left are lost to it
	wantRoom(t, h, 28)
	must(t, h.Drop(l))
	wantRoom(t, h, 28)
	h.Seal()
	wantRoom(t, h, 0)
	must(t, h.Release(1))
	wantRoom(t, h, 0)
	h.Settle()
	wantRoom(t, h, 128)
	put(t, h, letters(5, 1), 1, 0)
	wantRoom(t, h, 127)
}

// HT2: so many bytes can be put, one by one, and no more.
func TestRoomOneByOne(t *testing.T) {
	for _, boxes := range all(3, box{}, box{open, 0, 0}, box{open, 1, 1}, box{open, 63, 0}, box{open, 64, 64}, box{sealed, 1, 1}, box{limbo, 1, 0}) {
		h := known(t, device(t, 3), hot.Config{Count: 3, Sectors: 1}, boxes...)
		for left := h.Room(); left > 0; left-- {
			wantRoom(t, h, left)
			if _, err := h.Put([]byte{7}); err != nil {
				t.Fatalf("Put, with room for %d: %v", left, err)
			}
		}
		wantRoom(t, h, 0)
		wantNoPut(t, h, []byte{7}, api.ErrFull)
	}
}
