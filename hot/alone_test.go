package hot_test

import (
	"bytes"
	"math"
	"math/rand"
	"slices"
	"sync"
	"testing"

	"drydock/api"
	"drydock/dev"
	"drydock/hot"
)

// use makes every call of a Hot.
func use(h *hot.Hot, b []byte, l hot.Loc) {
	h.Get(l)
	h.Drop(l)
	h.Stat(l.Box)
	h.Bytes(l.Box)
	h.Put(b)
	h.Seal()
	h.Put(b)
	h.Get(l)
	h.Room()
	h.Release(l.Box)
	h.Release(l.From)
	h.Encode()
	h.Settle()
}

// P6: every call ends and none panics, whatever it is given, and whatever the device is in.
func TestTotal(t *testing.T) {
	numbers := []int{math.MinInt, -1, 0, 1, 2, 3, 64, 65, 1024, 1025, math.MaxInt - 1, math.MaxInt}
	texts := [][]byte{nil, {}, {1}, make([]byte, 64), make([]byte, 65), make([]byte, 1<<16+1)}
	d, crashed, lost, armed := device(t, 9), device(t, 9), device(t, 9), device(t, 9)
	crash(t, crashed)
	lost.Lose()
	must(t, armed.Arm(2))
	for i, d := range []*dev.Dev{nil, d, crashed, lost, armed, {}} {
		for _, first := range numbers {
			for _, count := range numbers {
				for _, sectors := range numbers {
					c := hot.Config{First: first, Count: count, Sectors: sectors}
					h, _ := hot.New(d, c)
					for j, b := range texts {
						n := numbers[(i+j)%len(numbers)]
						use(h, b, hot.Loc{Box: first, From: count, Len: sectors})
						use(h, b, hot.Loc{Box: j % 3, From: n, Len: first})
						use(h, b, hot.Loc{Box: 0, From: 0, Len: 1 + j})
						other, _ := hot.Decode(d, c, b)
						use(other, b, hot.Loc{Box: n})
					}
					other, _ := hot.Decode(d, c, h.Encode())
					use(other, texts[2], hot.Loc{Box: 0, Len: 1})
				}
			}
		}
	}
}

// P6: a Hot that no call answered does nothing, and none of its calls panics.
func TestZeroHot(t *testing.T) {
	var h hot.Hot
	for _, n := range edges {
		use(&h, []byte("a"), hot.Loc{Box: n, From: n, Len: n})
		use(&h, nil, hot.Loc{Box: 0, From: n, Len: 1})
	}
}

// fill writes over bytes and the spare room behind them.
func fill(b []byte) {
	b = b[:cap(b)]
	for i := range b {
		b[i] ^= 0xff
	}
}

// P6: bytes that were handed in are neither changed, nor the spare room behind them, nor kept; so it is where an error is answered.
func TestBytesAlone(t *testing.T) {
	for _, n := range []int{1, 50, 63, 64, 65, 128, 192} {
		for _, from := range []int{0, 1, 63, 64} {
			d := device(t, 20)
			h := known(t, d, hot.Config{Count: 2, Sectors: 5}, box{open, from, from}, box{})
			b := append(make([]byte, 0, 1000), letters(1, n)...)
			spare := b[:cap(b)]
			before := bytes.Clone(spare)
			l := put(t, h, b, 0, from)
			wantNoPut(t, h, b[:321], api.ErrLong)
			must(t, d.Arm(0))
			wantNoPut(t, h, b, api.ErrDown)
			d.Start(slices.Repeat([]bool{true}, 20))
			wantBytes(t, "what was handed in", spare, before)
			fill(b)
			wantGet(t, h, l, letters(1, n))
		}
	}
}

// P6: so are the bytes that Decode takes.
func TestDecodeAlone(t *testing.T) {
	c := hot.Config{Count: 2, Sectors: 2}
	good := encoded(box{sealed, 100, 3}, box{open, 5, 5})
	for _, whole := range []bool{true, false} {
		b := append(make([]byte, 0, 100), good...)
		spare := b[:cap(b)]
		if !whole {
			b = b[:len(b)-1]
		}
		before := bytes.Clone(spare)
		h, err := hot.Decode(device(t, 4), c, b)
		if whole != (err == nil) {
			t.Fatalf("Decode: %v", err)
		}
		wantBytes(t, "what was handed in", spare, before)
		if fill(b); whole {
			wantBoxes(t, h, box{sealed, 100, 3}, box{open, 5, 5})
			wantBytes(t, "Encode", h.Encode(), good)
		}
	}
}

// P6: what was handed out may be changed without changing what the Hot or the device has, or another answer.
func TestAnswersAlone(t *testing.T) {
	h, all := shown(t)
	for i := 1; i < 4; i++ {
		l := locOf(all, i, 20, 80)
		one, err := h.Get(l)
		must(t, err)
		two, err := h.Get(l)
		must(t, err)
		three, err := h.Bytes(i)
		must(t, err)
		four, err := h.Bytes(i)
		must(t, err)
		fill(one)
		wantBytes(t, "Get", two, all[128*i+20:][:80])
		fill(three)
		wantBytes(t, "Bytes", four, all[128*i:][:100])
		wantBytes(t, "Get", two, all[128*i+20:][:80])
		wantGet(t, h, l, all[128*i+20:][:80])
		wantAll(t, h, i, all[128*i:][:100])
	}
	five := h.Encode()
	six := h.Encode()
	fill(five)
	boxes := []box{{}, {open, 100, 60}, {sealed, 100, 60}, {limbo, 100, 0}}
	wantBytes(t, "Encode", six, encoded(boxes...))
	wantBytes(t, "Encode", h.Encode(), encoded(boxes...))
}

// P6: nothing is changed by a call that answers an error (but what Put says of the device's).
func TestErrorsChangeNothing(t *testing.T) {
	for _, boxes := range all(3, box{}, box{open, 40, 9}, box{sealed, 40, 9}, box{limbo, 40, 0}) {
		p := newPair(t, old(4), hot.Config{First: 1, Count: 3, Sectors: 1})
		p.back(encoded(boxes...), boxes)
		before := slices.Clone(boxes)
		for i := -1; i < 4; i++ {
			for _, l := range []hot.Loc{{Box: i}, {Box: i, From: -1, Len: 3}, {Box: i, From: 38, Len: 3}, {Box: i, From: 41, Len: 1}, {Box: i, Len: 41}, {Box: i, From: 20, Len: 10}} {
				p.get(l)
				p.drop(l)
			}
			p.bytes(i)
			if !p.m.has(i) || p.m.boxes[i].state != sealed {
				p.release(i)
			}
		}
		p.put(nil)
		p.put(make([]byte, 65))
		if !slices.Contains(boxes, box{}) {
			p.put(make([]byte, 25))
		}
		if !slices.Equal(p.m.boxes, before) || p.d.Writes() != 4 {
			t.Fatalf("the boxes are %v, and were %v", p.m.boxes, before)
		}
	}
}

// P6: two Hots on one device, or on two, have nothing in common, but that a device goes down as a whole.
func TestHotsAlone(t *testing.T) {
	d, e := device(t, 12), device(t, 12)
	one, two := made(t, d, hot.Config{First: 0, Count: 3, Sectors: 2}), made(t, d, hot.Config{First: 6, Count: 2, Sectors: 3})
	three := made(t, e, hot.Config{First: 0, Count: 3, Sectors: 2})
	var at [3]hot.Loc
	at[0] = put(t, one, letters(1, 128), 0, 0)
	at[1] = put(t, two, letters(2, 192), 0, 0)
	at[2] = put(t, three, letters(3, 50), 0, 0)
	put(t, one, letters(4, 128), 1, 0)
	put(t, one, letters(5, 128), 2, 0)
	put(t, two, letters(6, 192), 1, 0)
	two.Seal()
	must(t, two.Release(0))
	two.Settle()
	must(t, one.Drop(at[0]))
	wantBoxes(t, one, box{sealed, 128, 0}, box{sealed, 128, 128}, box{open, 128, 128})
	wantBoxes(t, two, box{}, box{sealed, 192, 192})
	wantBoxes(t, three, box{open, 50, 50}, box{}, box{})
	wantGet(t, one, at[0], letters(1, 128))
	wantNoGet(t, two, at[1], api.ErrRange)
	wantGet(t, three, at[2], letters(3, 50))
	crash(t, d)
	wantNoPut(t, two, letters(7, 1), api.ErrDown)
	wantBoxes(t, two, box{open, 0, 0}, box{sealed, 192, 192})
	wantNoGet(t, one, at[0], api.ErrDown)
	wantGet(t, three, put(t, three, letters(8, 9), 0, 50), letters(8, 9))
	wantBoxes(t, one, box{sealed, 128, 0}, box{sealed, 128, 128}, box{open, 128, 128})
}

// P6: so have a Hot and the one that is decoded of what it was.
func TestDecodedAlone(t *testing.T) {
	d, c := device(t, 4), hot.Config{Count: 2, Sectors: 2}
	one := made(t, d, c)
	l := put(t, one, letters(1, 100), 0, 0)
	two, err := hot.Decode(d, c, one.Encode())
	must(t, err)
	must(t, two.Drop(l))
	two.Seal()
	must(t, two.Release(0))
	wantBoxes(t, one, box{open, 100, 100}, box{})
	put(t, one, letters(2, 28), 0, 100)
	wantBoxes(t, two, box{limbo, 100, 0}, box{})
	wantGet(t, two, l, letters(1, 100))
}

// P6: the same done again, or asked again, is the same, whatever is done with other Hots between.
func TestSameAgain(t *testing.T) {
	for seed := range int64(40) {
		rnd, again, other := rand.New(rand.NewSource(seed)), rand.New(rand.NewSource(seed)), rand.New(rand.NewSource(-1-seed))
		c := hot.Config{First: 1, Count: 1 + int(seed)%4, Sectors: 1 + int(seed)%3}
		one, two, three := newLife(t, old(14), c), newLife(t, old(14), c), newLife(t, old(14), c)
		for range 60 {
			one.any(rnd)
			three.any(other)
			two.any(again)
			wantBytes(t, "Encode", two.h.Encode(), one.h.Encode())
		}
		if !slices.Equal(image(t, one.d), image(t, two.d)) {
			t.Fatalf("seed %d: the devices are unlike", seed)
		}
	}
}

// P6: Hots that are used at the same time have nothing to do with one another.
func TestAtTheSameTime(t *testing.T) {
	var all sync.WaitGroup
	for i := range 8 {
		all.Add(1)
		go func() {
			defer all.Done()
			d, err := dev.New(20)
			if err != nil {
				t.Error(err)
				return
			}
			h, err := hot.New(d, hot.Config{First: i, Count: 4, Sectors: 3})
			if err != nil {
				t.Error(err)
				return
			}
			for n := range 300 {
				b := letters(i+n, 1+n*i%192)
				l, err := h.Put(b)
				got, errGet := h.Get(l)
				if err != nil || errGet != nil || !bytes.Equal(got, b) {
					t.Errorf("Put and Get of %d bytes: %v, %v, %v", len(b), l, err, errGet)
					return
				}
				for box := range 4 {
					h.Release(box)
				}
				h.Settle()
			}
		}()
	}
	all.Wait()
}
