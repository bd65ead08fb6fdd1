package hot_test

import (
	"math/rand"
	"slices"
	"testing"

	"drydock/api"
	"drydock/dev"
	"drydock/hot"
)

// held is where bytes lie, and which.
type held struct {
	l hot.Loc
	b []byte
}

// life is a pair, what lies in its boxes, and what was saved of it.
type life struct {
	*pair
	all   []held
	saved struct {
		b     []byte
		boxes []box
		all   []held
	}
}

// newLife is a pair that was saved at its beginning.
func newLife(t *testing.T, sectors []api.Block, c hot.Config) *life {
	t.Helper()
	f := &life{pair: newPair(t, sectors, c)}
	f.save()
	return f
}

// put puts, and holds what was put.
func (f *life) put(b []byte) {
	f.t.Helper()
	if l, errno := f.pair.put(b); errno == 0 {
		f.all = append(f.all, held{l, slices.Clone(b)})
	}
}

// without is what lies in boxes that have not a state.
func (f *life) without(state int) []held {
	return slices.DeleteFunc(slices.Clone(f.all), func(x held) bool { return f.m.boxes[x.l.Box].state == state })
}

// settle settles; what was in limbo is held no more.
func (f *life) settle() {
	f.t.Helper()
	f.all = f.without(limbo)
	f.pair.settle()
	f.look()
}

// save makes all safe, keeps what is known of the boxes, and settles: what was let go is not asked for again.
func (f *life) save() {
	f.t.Helper()
	if f.d.Flush() != nil || f.m.d.Flush() != nil {
		return
	}
	f.saved.b, f.saved.boxes, f.saved.all = f.h.Encode(), slices.Clone(f.m.boxes), f.without(limbo)
	f.settle()
}

// look checks that all that is held is got as it was put.
func (f *life) look() {
	f.t.Helper()
	if f.d.Down() {
		return
	}
	for _, x := range f.all {
		wantGet(f.t, f.h, x.l, x.b)
		if all, err := f.h.Bytes(x.l.Box); err != nil || !slices.Equal(all[x.l.From:][:x.l.Len], x.b) {
			f.t.Fatalf("Bytes of box %d: %v, %v, have not %v at %d", x.l.Box, all, err, x.b, x.l.From)
		}
	}
}

// goOn starts the devices anew, of which every sector is kept; nothing is lost.
func (f *life) goOn() {
	f.t.Helper()
	f.on(func(d *dev.Dev) { d.Start(slices.Repeat([]bool{true}, d.Sectors())) })
	f.check()
	f.look()
}

// restart starts the devices anew, with the boxes as they were saved.
func (f *life) restart(kept []bool) {
	f.t.Helper()
	f.on(func(d *dev.Dev) { d.Start(kept) })
	f.back(f.saved.b, f.saved.boxes)
	f.all = slices.Clone(f.saved.all)
	f.look()
	f.settle()
}

// anyLoc is where something held lies, or lay, or a place near by, or none.
func (f *life) anyLoc(rnd *rand.Rand) hot.Loc {
	l := hot.Loc{Box: rnd.Intn(f.m.c.Count+2) - 1, From: rnd.Intn(f.m.size()+2) - 1, Len: rnd.Intn(f.m.size()+2) - 1, Sum: rnd.Uint32()}
	if len(f.all) > 0 && rnd.Intn(5) > 0 {
		l = f.all[rnd.Intn(len(f.all))].l
	}
	switch rnd.Intn(12) {
	case 0:
		l.From += rnd.Intn(3) - 1
	case 1:
		l.Len += rnd.Intn(3) - 1
	case 2:
		l.Sum++
	case 3:
		l.Box += rnd.Intn(3) - 1
	}
	return l
}

// anyData is bytes, of which there are often so many that they just fill a box, or what the open one has left, or one more or less.
func (f *life) anyData(rnd *rand.Rand) []byte {
	n := rnd.Intn(f.m.size() + 2)
	switch rnd.Intn(6) {
	case 0:
		n = f.m.size() + rnd.Intn(3) - 1
	case 1:
		n = max(0, f.m.room()%f.m.size()+rnd.Intn(3)-1)
	case 2:
		n = 64*rnd.Intn(f.m.c.Sectors) + rnd.Intn(3)
	case 3:
		n = rnd.Intn(20)
	}
	b := make([]byte, n)
	rnd.Read(b)
	return b
}

// any does any step.
func (f *life) any(rnd *rand.Rand) {
	f.t.Helper()
	box := rnd.Intn(f.m.c.Count+2) - 1
	switch rnd.Intn(16) {
	case 0:
		f.seal()
	case 1, 2:
		f.release(box)
	case 3:
		f.save()
	case 4:
		f.again()
	case 5:
		f.bytes(box)
	case 6, 7:
		f.get(f.anyLoc(rnd))
	case 8, 9, 10:
		f.drop(f.anyLoc(rnd))
	default:
		f.put(f.anyData(rnd))
	}
}

// HT1 to HT4: whatever is done, and whenever the device crashes: what was put is got as it was, till its box is free again; behind a start that loses sectors, what was saved.
func TestAny(t *testing.T) {
	for seed := range int64(300) {
		rnd := rand.New(rand.NewSource(seed))
		c := hot.Config{First: rnd.Intn(3), Count: 1 + rnd.Intn(5), Sectors: 1 + rnd.Intn(4)}
		f := newLife(t, old(c.First+c.Count*c.Sectors+rnd.Intn(3)), c)
		for range 100 {
			f.any(rnd)
			f.look()
			if rnd.Intn(8) == 0 {
				f.crash(rnd)
			}
		}
	}
}

// crash does some steps, of which one may crash the devices, and starts them anew.
func (f *life) crash(rnd *rand.Rand) {
	f.t.Helper()
	writes := rnd.Intn(5)
	f.on(func(d *dev.Dev) { d.Arm(writes) })
	for range rnd.Intn(6) {
		f.any(rnd)
	}
	if rnd.Intn(3) == 0 {
		f.goOn()
		return
	}
	kept := make([]bool, len(f.d.Loose()))
	for i := range kept {
		kept[i] = rnd.Intn(2) == 0
	}
	f.restart(kept)
}

// HT1 to HT4: all ways to do five steps with three boxes of two sectors each.
func TestAllWays(t *testing.T) {
	const ways, steps = 9, 5
	all := 1
	for range steps {
		all *= ways
	}
	for n := range all {
		f := newLife(t, make([]api.Block, 6), hot.Config{Count: 3, Sectors: 2})
		for i, left := 0, n; i < steps; i, left = i+1, left/ways {
			f.way(left%ways, letters(i, 128))
			f.look()
		}
		f.restart(nil)
	}
}

// way does one of the steps.
func (f *life) way(way int, b []byte) {
	f.t.Helper()
	switch way {
	case 0:
		f.put(b[:40])
	case 1:
		f.put(b[:100])
	case 2:
		if len(f.all) > 0 {
			f.drop(f.all[0].l)
		}
	case 3:
		f.seal()
	case 4:
		f.release(0)
	case 5:
		f.release(1)
	case 6:
		f.save()
	case 7:
		f.settle() // the boxes that were saved are those that are known now
		f.saved.b, f.saved.boxes, f.saved.all = f.h.Encode(), slices.Clone(f.m.boxes), slices.Clone(f.all)
		f.on(func(d *dev.Dev) { d.Flush() })
	default: // the first of two sectors is written, if it comes to that
		f.on(func(d *dev.Dev) { d.Arm(1) })
		f.put(b)
		f.goOn()
	}
}

// HT4: what was put is got through all that a box goes through, till it is free.
func TestTillFree(t *testing.T) {
	f := newLife(t, old(9), hot.Config{First: 1, Count: 2, Sectors: 4})
	for i := range 20 {
		f.put(letters(i, 1+i))
		f.look()
	}
	f.again()
	f.look()
	f.seal()
	f.look()
	for i := range 10 {
		f.drop(f.all[i].l)
		f.look()
	}
	f.release(0)
	f.look()
	f.again()
	f.look()
	f.put(letters(50, 256))
	f.look()
	gone := slices.Clone(f.all)
	f.settle()
	f.look()
	for _, x := range gone {
		if x.l.Box == 0 {
			wantNoGet(t, f.h, x.l, api.ErrRange)
		}
	}
	if len(f.all) != 1 {
		t.Errorf("%d are held", len(f.all))
	}
}
