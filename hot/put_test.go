package hot_test

import (
	"slices"
	"testing"

	"drydock/api"
	"drydock/dev"
	"drydock/hot"
)

// HT1: known bytes: each Put lies behind the one ahead, noughts behind it, and nothing else is touched.
func TestPutKnown(t *testing.T) {
	d := disk(t, old(5))
	h := made(t, d, hot.Config{First: 1, Count: 1, Sectors: 3})
	want := old(5)
	if l := put(t, h, []byte("ab"), 0, 0); l.Sum != 91076 {
		t.Errorf("Put: %v", l)
	}
	want[1] = api.Block{'a', 'b'}
	wantImage(t, d, want)
	put(t, h, []byte("c"), 0, 2)
	want[1] = api.Block{'a', 'b', 'c'}
	wantImage(t, d, want)
	long := slices.Repeat([]byte("x"), 70)
	put(t, h, long, 0, 3)
	copy(want[1][3:], long)
	want[2] = api.Block{'x', 'x', 'x', 'x', 'x', 'x', 'x', 'x', 'x'}
	wantImage(t, d, want)
	wantBoxes(t, h, box{open, 73, 73})
	wantRoom(t, h, 3*64-73)
}

// wantImage checks all sectors of a device.
func wantImage(t *testing.T, d *dev.Dev, want []api.Block) {
	t.Helper()
	if got := image(t, d); !slices.Equal(got, want) {
		t.Fatalf("the device:\n%v, want\n%v", got, want)
	}
}

// laid is what stands in sectors when bytes were laid over them from a place on: as it was ahead, noughts behind.
func laid(all []api.Block, from int, b []byte) []api.Block {
	all = slices.Clone(all)
	for i, c := range b {
		all[(from+i)/64][(from+i)%64] = c
	}
	for at := from + len(b); at%64 > 0; at++ {
		all[at/64][at%64] = 0
	}
	return all
}

// HT1: from each place in a box so many bytes as there is room for: just the sectors that they touch are written, each once, and they are got again.
func TestPutPlaces(t *testing.T) {
	c := hot.Config{First: 2, Count: 3, Sectors: 3}
	const first = (2 + 3) * 64 // of the device's bytes, of box 1
	for from := range 192 {
		for n := 1; n <= 192-from; n++ {
			if n > 3 && n%64 > 3 && (from+n)%64 > 1 && (from+n)%64 < 63 && from%7 > 0 {
				continue // nothing begins or ends here
			}
			d := disk(t, old(12))
			h := known(t, d, c, box{sealed, 192, 192}, box{open, from, from / 2}, box{})
			b := letters(n, n)
			l := put(t, h, b, 1, from)
			wantImage(t, d, laid(old(12), first+from, b))
			var touched []int
			for s := from / 64; s <= (from+n-1)/64; s++ {
				touched = append(touched, 5+s)
			}
			if d.Writes() != 12+len(touched) || !slices.Equal(d.Loose(), touched) {
				t.Fatalf("%d bytes from %d on: %d writes, %v loose, want %v", n, from, d.Writes()-12, d.Loose(), touched)
			}
			wantGet(t, h, l, b)
			wantBoxes(t, h, box{sealed, 192, 192}, box{open, from + n, from/2 + n}, box{})
			wantRoom(t, h, 192-from-n+192)
		}
	}
}

// HT1: the sectors are written in order: behind each count of writes these are the first ones.
func TestPutOrder(t *testing.T) {
	for _, from := range []int{0, 1, 63, 64, 100} {
		for _, n := range []int{1, 64, 65, 200, 412} {
			sectors := (from+n-1)/64 - from/64 + 1
			for writes := range sectors {
				d := disk(t, old(12))
				h := known(t, d, hot.Config{First: 3, Count: 1, Sectors: 8}, box{open, from, from})
				must(t, d.Arm(writes))
				wantNoPut(t, h, letters(n, n), api.ErrDown)
				var want []int
				for i := range writes {
					want = append(want, 3+from/64+i)
				}
				if got := d.Loose(); !slices.Equal(got, want) {
					t.Fatalf("behind %d writes %v are written, want %v", writes, got, want)
				}
			}
		}
	}
}

// HT1: no byte, one, as many as a box has, and more.
func TestPutLong(t *testing.T) {
	for _, sectors := range []int{1, 2, 3, mostSectors} {
		size := sectors * 64
		for _, boxes := range [][]box{{{}, {}}, {{open, 1, 1}, {}}, {{sealed, 1, 1}, {open, 0, 0}}, {{sealed, size, 0}, {limbo, 1, 0}}} {
			for _, down := range []bool{false, true} {
				d := device(t, 2*sectors)
				h := known(t, d, hot.Config{Count: 2, Sectors: sectors}, boxes...)
				if down {
					crash(t, d)
				}
				for _, b := range [][]byte{nil, {}, make([]byte, size+1), make([]byte, size+64), make([]byte, 4*size), make([]byte, 1<<20)} {
					wantNoPut(t, h, b, api.ErrLong) // ahead of ErrFull, and of a device that is down
					wantBoxes(t, h, boxes...)
				}
				wantSafe(t, d)
			}
		}
		h := made(t, device(t, 3*sectors), hot.Config{Count: 3, Sectors: sectors})
		wantGet(t, h, put(t, h, letters(1, size), 0, 0), letters(1, size))
		wantGet(t, h, put(t, h, letters(2, 1), 1, 0), letters(2, 1))
		wantGet(t, h, put(t, h, letters(3, size), 2, 0), letters(3, size))
		wantBoxes(t, h, box{sealed, size, size}, box{sealed, 1, 1}, box{open, size, size})
		wantNoPut(t, h, letters(4, 1), api.ErrFull)
	}
}

// HT1: bytes that just fill the open box lie in it; of one more the next box is opened.
func TestPutFills(t *testing.T) {
	for from := range 128 {
		left := 128 - from
		h := known(t, device(t, 4), hot.Config{Count: 2, Sectors: 2}, box{open, from, 0}, box{})
		put(t, h, letters(1, left), 0, from)
		wantBoxes(t, h, box{open, 128, left}, box{})
		wantRoom(t, h, 128)
		put(t, h, letters(2, 1), 1, 0)
		wantBoxes(t, h, box{sealed, 128, left}, box{open, 1, 1})
		if from == 0 {
			continue // one more is too many
		}
		h = known(t, device(t, 4), hot.Config{Count: 2, Sectors: 2}, box{open, from, 0}, box{})
		put(t, h, letters(1, left+1), 1, 0)
		wantBoxes(t, h, box{sealed, from, 0}, box{open, left + 1, left + 1})
		wantRoom(t, h, 128-left-1)
	}
}

// all are all lists of so many boxes, each in one of the states that are given, of which one at most is open.
func all(count int, states ...box) [][]box {
	if count == 0 {
		return [][]box{nil}
	}
	var lists [][]box
	for _, l := range all(count-1, states...) {
		for _, x := range states {
			if x.state != open || !slices.ContainsFunc(l, func(y box) bool { return y.state == open }) {
				lists = append(lists, append(slices.Clone(l), x))
			}
		}
	}
	return lists
}

// HT1: whichever boxes there are: bytes lie in the open one, or else, if there is none, or it has no room, in the least free one; if none is free, nothing has changed.
func TestPutWhichBox(t *testing.T) {
	b := letters(1, 30)
	for _, boxes := range all(4, box{}, box{open, 34, 5}, box{open, 35, 5}, box{sealed, 64, 9}, box{limbo, 7, 0}) {
		d := disk(t, old(4))
		h := known(t, d, hot.Config{Count: 4, Sectors: 1}, boxes...)
		want := slices.Clone(boxes)
		at := slices.IndexFunc(want, func(x box) bool { return x.state == open })
		if at < 0 || want[at].bytes > 34 {
			least := slices.Index(want, box{})
			if least < 0 {
				wantNoPut(t, h, b, api.ErrFull)
				wantBoxes(t, h, boxes...)
				wantImage(t, d, old(4))
				wantSafe(t, d)
				continue
			}
			if at >= 0 {
				want[at].state = sealed
			}
			want[least].state = open
			at = least
		}
		put(t, h, b, at, want[at].bytes)
		want[at].bytes += 30
		want[at].useful += 30
		wantBoxes(t, h, want...)
	}
}

// HT1: an open box that has no room for some bytes stays open, if no box is free; fewer lie in it still.
func TestPutFull(t *testing.T) {
	h := made(t, device(t, 2), hot.Config{Count: 2, Sectors: 1})
	put(t, h, letters(1, 50), 0, 0)
	put(t, h, letters(2, 50), 1, 0)
	for n := 15; n <= 64; n++ {
		wantNoPut(t, h, letters(3, n), api.ErrFull)
		wantBoxes(t, h, box{sealed, 50, 50}, box{open, 50, 50})
		wantRoom(t, h, 14)
	}
	put(t, h, letters(3, 14), 1, 50)
	wantNoPut(t, h, letters(4, 1), api.ErrFull)
	wantBoxes(t, h, box{sealed, 50, 50}, box{open, 64, 64})
	wantRoom(t, h, 0)
	h.Seal()
	wantNoPut(t, h, letters(4, 1), api.ErrFull)
	must(t, h.Release(0))
	wantNoPut(t, h, letters(4, 1), api.ErrFull) // it is not used again till all is settled
	wantBoxes(t, h, box{limbo, 50, 0}, box{sealed, 64, 64})
	h.Settle()
	put(t, h, letters(4, 1), 0, 0)
	wantBoxes(t, h, box{open, 1, 1}, box{sealed, 64, 64})
}

// HT1: what lies ahead in the first sector stays as it is on the device, whoever wrote it; what lies behind does not.
func TestPutAhead(t *testing.T) {
	for from := 1; from < 64; from++ {
		d := device(t, 3)
		h := made(t, d, hot.Config{First: 1, Count: 1, Sectors: 2})
		put(t, h, letters(1, from), 0, 0)
		other := old(2)[1]
		must(t, d.Write(1, other[:]))
		must(t, d.Write(2, other[:]))
		put(t, h, letters(2, 64), 0, from)
		want := make([]api.Block, 3)
		want[1], want[2] = other, other
		wantImage(t, d, laid(want, 64+from, letters(2, 64)))
	}
}

// HT1: a box that was used is laid over from its beginning on.
func TestPutOver(t *testing.T) {
	d := device(t, 4)
	h := made(t, d, hot.Config{Count: 2, Sectors: 2})
	for i := range 20 {
		b := letters(i, 128-i)
		l := put(t, h, b, i%2, 0)
		wantGet(t, h, l, b)
		wantAll(t, h, i%2, b)
		for other := range 2 {
			h.Release(other) // the one that was sealed thereby
		}
		h.Settle()
	}
}

// HT1: Put is done in the device's sectors that are the box's, of any first one.
func TestPutFirst(t *testing.T) {
	for first := range 4 {
		for sectors := 1; sectors < 4; sectors++ {
			d := disk(t, old(16))
			c := hot.Config{First: first, Count: 4, Sectors: sectors}
			h := made(t, d, c)
			want := old(16)
			for i := range 4 {
				b := letters(i, sectors*64-i)
				put(t, h, b, i, 0)
				want = laid(want, (first+i*sectors)*64, b)
				wantImage(t, d, want)
			}
		}
	}
}

// HT1: Seal seals the open box, if there is one, whatever it has, and no other.
func TestSeal(t *testing.T) {
	for _, boxes := range all(3, box{}, box{open, 0, 0}, box{open, 64, 10}, box{open, 9, 9}, box{sealed, 5, 5}, box{limbo, 5, 0}) {
		d := disk(t, old(3))
		h := known(t, d, hot.Config{Count: 3, Sectors: 1}, boxes...)
		want, room := slices.Clone(boxes), 0
		for i, x := range want {
			switch x.state {
			case open:
				want[i].state = sealed
			case free:
				room += 64
			}
		}
		for range 2 {
			h.Seal()
			wantBoxes(t, h, want...)
			wantRoom(t, h, room)
		}
		wantSafe(t, d)
		wantImage(t, d, old(3))
	}
}

// HT1: behind a Seal the next bytes lie in another box.
func TestSealPut(t *testing.T) {
	h := made(t, device(t, 3), hot.Config{Count: 3, Sectors: 1})
	h.Seal() // there is none
	wantBoxes(t, h, box{}, box{}, box{})
	one := put(t, h, letters(1, 3), 0, 0)
	h.Seal()
	two := put(t, h, letters(2, 4), 1, 0)
	h.Seal()
	wantBoxes(t, h, box{sealed, 3, 3}, box{sealed, 4, 4}, box{})
	wantGet(t, h, one, letters(1, 3))
	wantGet(t, h, two, letters(2, 4))
}
