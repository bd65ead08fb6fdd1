package toggle_test

import (
	"bytes"
	"math"
	"math/rand"
	"slices"
	"testing"

	"drydock/api"
	"drydock/dev"
	"drydock/toggle"
)

// P6: every call ends and none panics, at all areas, texts and states of a device, and whatever its sectors hold.
func TestTotal(t *testing.T) {
	numbers := []int{math.MinInt, math.MinInt32, -1, 0, 1, 2, 3, 4, 9, api.MaxSectors, api.MaxSectors + 1, math.MaxInt32, math.MaxInt - 1, math.MaxInt}
	texts := [][]byte{nil, {}, {1}, make([]byte, 256), make([]byte, 257), make([]byte, api.MaxBlob)}
	states := []func(d *dev.Dev){
		func(d *dev.Dev) {},
		func(d *dev.Dev) { d.Write(0, teller(1, true, math.MaxUint64)) },
		func(d *dev.Dev) { d.Write(0, teller(math.MaxUint64-1, true, 256)) },
		func(d *dev.Dev) { d.Arm(0) },
		func(d *dev.Dev) { d.Arm(2) },
		func(d *dev.Dev) { d.Arm(0); d.Write(0, nil) },
		func(d *dev.Dev) { d.Lose() },
	}
	for _, first := range numbers {
		for _, sectors := range numbers {
			a := toggle.Area{First: first, Sectors: sectors}
			toggle.Room(a)
			toggle.Load(nil, a)
			for _, text := range texts {
				toggle.Save(nil, a, text)
				for _, state := range states {
					d := device(t, 9)
					state(d)
					toggle.Load(d, a)
					toggle.Save(d, a, text)
					toggle.Load(d, a)
				}
			}
		}
	}
}

// P6: of whatever bytes a teller is, Load answers a text that can be, or ErrForm or ErrNone.
func TestAnyTeller(t *testing.T) {
	r := rand.New(rand.NewSource(4))
	d := device(t, 9)
	a := toggle.Area{First: 0, Sectors: 9}
	tellers := 0
	for range 20000 {
		b := make([]byte, r.Intn(api.BlockSize+1))
		for i := range b {
			b[i] = byte(r.Intn(256) >> r.Intn(9))
		}
		put(t, d, 0, b)
		text, number, err := toggle.Load(d, a)
		switch err {
		case nil:
			tellers++
			one, two := teller(number, false, uint64(len(text))), teller(number, true, uint64(len(text)))
			if b = block(string(b)); !bytes.HasPrefix(b, one) && !bytes.HasPrefix(b, two) {
				t.Errorf("% x: %d bytes, number %d", b, len(text), number)
			}
		case api.ErrForm:
		case api.ErrNone:
			if len(bytes.Trim(b, "\x00")) != 0 {
				t.Errorf("% x: no text", b)
			}
		default:
			t.Errorf("% x: %v", b, err)
		}
	}
	if tellers < 100 {
		t.Errorf("of the bytes tried %d are a teller: too few", tellers)
	}
}

// fill writes over bytes and the spare room behind them.
func fill(b []byte) {
	b = b[:cap(b)]
	for i := range b {
		b[i] = 'X'
	}
}

// P6: an argument is neither changed, nor the spare room behind it, nor kept.
func TestArgumentsAlone(t *testing.T) {
	a := toggle.Area{First: 0, Sectors: 9}
	for _, length := range lengths {
		d := device(t, 9)
		text := letters(7, length)
		b := append(make([]byte, 0, length+100), text...)
		spare := b[:cap(b)]
		before := bytes.Clone(spare)
		must(t, toggle.Save(d, a, b))
		if !bytes.Equal(spare, before) {
			t.Errorf("Save changed its argument: %q", spare)
		}
		fill(b)
		wantText(t, d, a, text, 1)
		must(t, toggle.Save(d, a, append(b[:0], "other"...)))
		wantText(t, d, a, "other", 2)
	}
}

// P6: an answer is new memory, and shares none with the device or another answer.
func TestAnswersAlone(t *testing.T) {
	a := toggle.Area{First: 0, Sectors: 9}
	for _, length := range lengths {
		text := letters(7, length)
		d := history(t, a, []string{text})
		before := image(t, d)
		one, _, err := toggle.Load(d, a)
		must(t, err)
		two, _, err := toggle.Load(d, a)
		must(t, err)
		fill(one)
		if string(two) != text {
			t.Errorf("two answers of Load share memory: %q", two)
		}
		wantText(t, d, a, text, 1)
		if !slices.Equal(image(t, d), before) {
			t.Errorf("an answer of Load is the device's memory")
		}
	}
}

// P6: what is kept is kept on the device alone: two devices, and two areas of one, have nothing in common, and the same asked again is the same.
func TestAreasAlone(t *testing.T) {
	d, e := device(t, 12), device(t, 12)
	a, b := toggle.Area{First: 0, Sectors: 6}, toggle.Area{First: 6, Sectors: 6}
	must(t, toggle.Save(d, a, []byte("one")))
	wantNoText(t, d, b, api.ErrNone)
	wantNoText(t, e, a, api.ErrNone)
	must(t, toggle.Save(d, b, []byte("two")))
	must(t, toggle.Save(d, b, []byte("three")))
	must(t, toggle.Save(e, b, []byte("four")))
	for range 3 {
		wantText(t, d, a, "one", 1)
		wantText(t, d, b, "three", 2)
		wantNoText(t, e, a, api.ErrNone)
		wantText(t, e, b, "four", 1)
	}
}
