package hot_test

import (
	"bytes"
	"math"
	"math/bits"
	"math/rand"
	"slices"
	"testing"

	"drydock/api"
	"drydock/dev"
	"drydock/hot"
)

// numbersIn are the numbers that bytes are, each in its only form.
func numbersIn(b []byte) ([]uint64, bool) {
	var all []uint64
	for len(b) > 0 {
		more := bits.LeadingZeros8(^b[0])
		if len(b) < 1+more {
			return nil, false
		}
		n := uint64(b[0]) & (1<<max(0, 7-more) - 1)
		for _, c := range b[1:][:more] {
			n = n<<8 | uint64(c)
		}
		if !bytes.Equal(number(n), b[:1+more]) {
			return nil, false
		}
		all = append(all, n)
		b = b[1+more:]
	}
	return all, true
}

// toldBy are the boxes that bytes tell, by the words of HT3.
func toldBy(b []byte, c hot.Config) ([]box, api.Errno) {
	n := len(b) - 4
	if n < 0 {
		return nil, api.ErrEnd
	}
	if !bytes.Equal(seal(b[:n]), b) {
		return nil, api.ErrSum
	}
	l, form := numbersIn(b[:n])
	if !form || len(l) != 1+3*c.Count || l[0] != uint64(c.Count) {
		return nil, api.ErrForm
	}
	var boxes []box
	opens := 0
	for l := range slices.Chunk(l[1:], 3) {
		if l[0] > 3 || l[1] > uint64(64*c.Sectors) || l[2] > l[1] {
			return nil, api.ErrForm
		}
		x := box{int(l[0]), int(l[1]), int(l[2])}
		if x.state == open {
			opens++
		}
		if opens > 1 || x.state == free && x != (box{}) || x.state == limbo && x.useful > 0 {
			return nil, api.ErrForm
		}
		boxes = append(boxes, x)
	}
	return boxes, 0
}

// wantNoDecode checks that Decode answers an error, and nothing beside it.
func wantNoDecode(t *testing.T, d *dev.Dev, c hot.Config, b []byte, want api.Errno) {
	t.Helper()
	h, err := hot.Decode(d, c, b)
	wantErr(t, "Decode", err, want)
	if h != nil {
		t.Fatal("Decode: a Hot beside an error")
	}
}

// wantTold checks what Decode answers of bytes, and that of what it takes the same bytes are encoded.
func wantTold(t *testing.T, d *dev.Dev, c hot.Config, b []byte) bool {
	t.Helper()
	boxes, errno := toldBy(b, c)
	if errno != 0 {
		wantNoDecode(t, d, c, b, errno)
		return false
	}
	h, err := hot.Decode(d, c, b)
	must(t, err)
	wantBoxes(t, h, boxes...)
	wantBytes(t, "Encode", h.Encode(), b)
	return true
}

// HT3: known bytes: how many boxes, and of each its state, its bytes and its useful ones; and their sum.
func TestEncodeKnown(t *testing.T) {
	h := made(t, device(t, 1), hot.Config{Count: 1, Sectors: 1})
	wantBytes(t, "Encode", h.Encode(), []byte{1, 0, 0, 0, 4, 7, 9, 5})
	put(t, h, []byte("ab"), 0, 0)
	wantBytes(t, "Encode", h.Encode(), []byte{1, 1, 2, 2, 9, 11, 10, 5})
	h = known(t, device(t, 50), hot.Config{Count: 4, Sectors: 10}, box{sealed, 300, 127}, box{}, box{limbo, 128, 0}, box{open, 640, 640})
	want := []byte{4, 2, 129, 44, 127, 0, 0, 0, 3, 128, 128, 0, 1, 130, 128, 130, 128}
	wantBytes(t, "Encode", h.Encode(), seal(want))
	h = made(t, device(t, 200), hot.Config{Count: 200, Sectors: 1})
	wantBytes(t, "Encode", h.Encode(), seal(append([]byte{128, 200}, make([]byte, 600)...)))
}

// HT3: what was encoded is decoded, of each state, whatever the numbers are; it goes on as it did.
func TestEncodeDecode(t *testing.T) {
	c := hot.Config{First: 1, Count: 4, Sectors: 3}
	for _, boxes := range all(4, box{}, box{open, 0, 0}, box{open, 192, 192}, box{open, 130, 7}, box{sealed, 128, 127}, box{sealed, 0, 0}, box{limbo, 192, 0}, box{limbo, 0, 0}) {
		p := newPair(t, old(14), c)
		p.back(encoded(boxes...), boxes)
		p.again()
		p.put(letters(1, 70))
		p.again()
		p.settle()
		p.release(2)
		p.again()
	}
}

// HT3: Encode is nothing but what is known: the device is neither asked nor changed, and nothing else is told.
func TestEncodeAlone(t *testing.T) {
	d := device(t, 6)
	h := made(t, d, hot.Config{First: 1, Count: 2, Sectors: 2})
	put(t, h, letters(1, 100), 0, 0)
	crash(t, d)
	for range 2 {
		wantBytes(t, "Encode", h.Encode(), encoded(box{open, 100, 100}, box{}))
	}
	other := made(t, device(t, 9), hot.Config{First: 5, Count: 2, Sectors: 2})
	put(t, other, letters(9, 99), 0, 0)
	put(t, other, letters(7, 1), 0, 99)
	wantBytes(t, "Encode", other.Encode(), h.Encode())
}

// HT3: a box of one sector, of all numbers that it might have and some more: just those are taken that can be.
func TestDecodeAllOfOne(t *testing.T) {
	d, c, taken := device(t, 1), hot.Config{Count: 1, Sectors: 1}, 0
	for state := range 6 {
		for bytes := range 68 {
			for useful := range 68 {
				if wantTold(t, d, c, encoded(box{state, bytes, useful})) {
					taken++
				}
			}
		}
	}
	if want := 1 + 2*65*66/2 + 65; taken != want {
		t.Errorf("%d are taken, want %d", taken, want)
	}
}

// HT3: of boxes of each state, in all orders, one is open at most.
func TestDecodeStates(t *testing.T) {
	d := device(t, 8)
	for count := 1; count <= 4; count++ {
		states := []box{{free, 0, 0}, {open, 100, 20}, {sealed, 100, 20}, {limbo, 100, 0}, {4, 0, 0}}
		for n := range 5 * 5 * 5 * 5 {
			var boxes []box
			for i, left := 0, n; i < count; i, left = i+1, left/5 {
				boxes = append(boxes, states[left%5])
			}
			wantTold(t, d, hot.Config{Count: count, Sectors: 2}, encoded(boxes...))
		}
	}
}

// HT3: wrong numbers, each told to be no form.
func TestDecodeForm(t *testing.T) {
	d, c := device(t, 8), hot.Config{Count: 2, Sectors: 2}
	good := box{sealed, 5, 4}
	for _, boxes := range [][]box{
		{good, {4, 0, 0}}, {{4, 0, 0}, good}, {good, {255, 5, 5}}, {good, {1 << 40, 0, 0}}, // no state
		{{open, 5, 5}, {open, 5, 5}}, {{open, 0, 0}, {open, 0, 0}},
		{good, {sealed, 129, 0}}, {good, {open, 129, 0}}, {good, {limbo, 129, 0}}, {{sealed, math.MaxInt, 0}, good},
		{good, {sealed, 5, 6}}, {good, {open, 0, 1}}, {{sealed, 128, 129}, good}, {{sealed, 5, math.MaxInt}, good},
		{good, {free, 1, 0}}, {good, {free, 1, 1}}, {good, {free, 0, 1}}, {{free, 128, 128}, good},
		{good, {limbo, 5, 1}}, {good, {limbo, 5, 5}}, {{limbo, 128, 128}, good}, {good, {limbo, 0, 1}},
	} {
		wantNoDecode(t, d, c, encoded(boxes...), api.ErrForm)
	}
	for _, b := range [][]byte{
		{},
		{2},
		spelt(2, good),
		spelt(2, good, good, good),
		append(spelt(2, good, good), 0),
		append(spelt(2, good, good), 0, 0, 0),
		append([]byte{0}, spelt(2, good, good)...),
		spelt(0), spelt(1, good), spelt(3, good, good, good), // boxes, but not so many
		spelt(1, good, good), spelt(3, good, good), spelt(0, good, good), spelt(1025, good, good), spelt(math.MaxInt, good, good),
		{2, 128, 2, 5, 4, 2, 5, 4},    // a number in more bytes than it needs
		{128, 2, 2, 5, 4, 2, 5, 4},    // the count, too
		{2, 2, 5, 4, 2, 5, 192, 0, 4}, // or the last one
		{2, 2, 5, 4, 2, 5, 255, 255, 255, 255, 255, 255, 255, 255, 255},
		{2, 2, 5, 4, 255, 128, 0, 0, 0, 0, 0, 0, 2, 5, 4},
	} {
		wantNoDecode(t, d, c, seal(b), api.ErrForm)
	}
	wantTold(t, d, c, encoded(good, good))
}

// HT3: a number that has just these low bits, far above all that can be, is none of them.
func TestDecodeGreat(t *testing.T) {
	d, c := device(t, 8), hot.Config{Count: 2, Sectors: 2}
	for _, above := range []uint64{1 << 8, 1 << 16, 1 << 31, 1 << 32, 1 << 62, 1 << 63, 1<<64 - 1<<8} {
		for at := range 7 {
			var b []byte
			for i, n := range []uint64{2, 2, 5, 4, 1, 5, 4} {
				if i == at {
					n += above
				}
				b = append(b, number(n)...)
			}
			wantNoDecode(t, d, c, seal(b), api.ErrForm)
		}
	}
}

// HT3: each byte made each other one: the sum tells it; with a sum of its own it is what it tells, or no form.
func TestDecodeBytes(t *testing.T) {
	d, c := device(t, 9), hot.Config{Count: 3, Sectors: 3}
	good := encoded(box{sealed, 190, 128}, box{open, 64, 63}, box{limbo, 5, 0})
	for i := range good {
		for n := 1; n < 256; n++ {
			b := slices.Clone(good)
			b[i] ^= byte(n)
			wantNoDecode(t, d, c, b, api.ErrSum)
			if i < len(good)-4 {
				wantTold(t, d, c, seal(b[:len(b)-4]))
			}
		}
	}
	for n := range len(good) {
		want := api.ErrSum
		if n < 4 {
			want = api.ErrEnd
		}
		wantNoDecode(t, d, c, good[:n], want)
		if n < len(good)-4 {
			wantNoDecode(t, d, c, seal(good[:n]), api.ErrForm)
		}
	}
	for n := range 256 {
		wantNoDecode(t, d, c, append(slices.Clone(good), byte(n)), api.ErrSum)
		wantNoDecode(t, d, c, seal(append(slices.Clone(good[:len(good)-4]), byte(n))), api.ErrForm)
	}
}

// HT3: of any numbers, and any bytes, Decode takes just those that have the form.
func TestDecodeAny(t *testing.T) {
	rnd := rand.New(rand.NewSource(1))
	d, taken := device(t, 20), 0
	for range 20000 {
		c := hot.Config{First: rnd.Intn(4), Count: 1 + rnd.Intn(4), Sectors: 1 + rnd.Intn(4)}
		var boxes []box
		for range c.Count {
			n := rnd.Intn(64*c.Sectors + 2)
			boxes = append(boxes, []box{{}, {open, n, rnd.Intn(n + 1)}, {sealed, n, n}, {sealed, n, rnd.Intn(n + 2)}, {limbo, n, 0}, {limbo, 0, 0}}[rnd.Intn(6)])
		}
		b := spelt(c.Count, boxes...)
		if rnd.Intn(3) == 0 {
			b[rnd.Intn(len(b))] = byte(rnd.Intn(256) >> rnd.Intn(8))
		}
		if wantTold(t, d, c, seal(b)) {
			taken++
		}
		rnd.Read(b)
		wantTold(t, d, c, seal(b))
	}
	if taken < 5000 {
		t.Errorf("only %d are taken", taken)
	}
}

// HT3: New's error is the first, horner's the second; a device that is down is not asked.
func TestDecodeOrder(t *testing.T) {
	good := encoded(box{}, box{open, 5, 5})
	c := hot.Config{Count: 2, Sectors: 2}
	for _, b := range [][]byte{nil, {1, 2, 3}, {1, 2, 3, 4, 5}, seal([]byte{9}), good} {
		for _, wrong := range []hot.Config{{}, {Count: 2}, {Sectors: 2}, {First: 1, Count: 2, Sectors: 2}, {First: -1, Count: 2, Sectors: 1}, {Count: 3, Sectors: 2}, {Count: 1025, Sectors: 1}, {Count: 1, Sectors: 1025}, {First: math.MaxInt, Count: 2, Sectors: 2}} {
			wantNoDecode(t, device(t, 4), wrong, b, api.ErrArg)
		}
		wantNoDecode(t, nil, c, b, api.ErrArg)
		wantNoDecode(t, nil, hot.Config{}, b, api.ErrArg)
	}
	d := device(t, 4)
	for _, change := range []func(){func() {}, func() { crash(t, d) }, d.Lose} {
		change()
		for n := range 4 {
			wantNoDecode(t, d, c, make([]byte, n), api.ErrEnd)
		}
		wantNoDecode(t, d, c, make([]byte, 4), api.ErrSum)
		wantNoDecode(t, d, c, seal(nil), api.ErrForm)
		wantTold(t, d, c, good)
	}
}

// HT3: as many boxes, of as many sectors, as there may be.
func TestDecodeMost(t *testing.T) {
	d := device(t, 1<<14)
	boxes := make([]box, mostBoxes)
	for i := range boxes {
		boxes[i] = box{sealed, i, i / 2}
	}
	wantTold(t, d, hot.Config{Count: mostBoxes, Sectors: 16}, encoded(boxes...))
	boxes[mostBoxes-1] = box{open, 1025, 5}
	wantNoDecode(t, d, hot.Config{Count: mostBoxes, Sectors: 16}, encoded(boxes...), api.ErrForm)
	most := slices.Repeat([]box{{sealed, 1 << 16, 1 << 16}}, 16)
	wantTold(t, d, hot.Config{Count: 16, Sectors: mostSectors}, encoded(most...))
	most[15].bytes++
	wantNoDecode(t, d, hot.Config{Count: 16, Sectors: mostSectors}, encoded(most...), api.ErrForm)
}
