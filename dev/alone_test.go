package dev_test

import (
	"bytes"
	"math"
	"slices"
	"testing"

	"drydock/api"
	"drydock/dev"
)

// P6: in every state every call ends and none panics, whatever it is given.
func TestTotal(t *testing.T) {
	states := []func(d *dev.Dev){
		func(d *dev.Dev) {},
		func(d *dev.Dev) { d.Write(0, []byte("x")) },
		func(d *dev.Dev) { d.Arm(0) },
		func(d *dev.Dev) { d.Arm(0); d.Write(0, nil) },
		func(d *dev.Dev) { d.Lose() },
		func(d *dev.Dev) { d.Lose(); d.Replace() },
		func(d *dev.Dev) { d.Write(0, nil); d.Arm(0); d.Write(0, nil); d.Lose(); d.Replace() },
	}
	numbers := []int{math.MinInt, math.MinInt32, -1, 0, 1, 2, api.MaxSectors, math.MaxInt32, math.MaxInt}
	texts := [][]byte{nil, {}, {1}, make([]byte, api.BlockSize), make([]byte, 1<<16)}
	for _, state := range states {
		for _, n := range numbers {
			for _, b := range texts {
				d := device(t, 2)
				state(d)
				d.Arm(n)
				d.Read(n)
				d.Write(n, b)
				d.Flush()
				d.Loose()
				d.Start(make([]bool, len(b)))
				d.Lose()
				d.Start(nil)
				d.Replace()
				d.Write(n, b)
				d.Sectors()
				d.Writes()
			}
		}
	}
}

// P6: an argument is neither changed nor kept.
func TestArgumentsAlone(t *testing.T) {
	d := device(t, 2)
	b := append(make([]byte, 0, 2*api.BlockSize), "text"...)
	spare := b[:cap(b)]
	must(t, d.Write(0, b))
	if !bytes.Equal(spare, append([]byte("text"), make([]byte, 2*api.BlockSize-4)...)) {
		t.Errorf("Write changed its argument: %q", spare)
	}
	spare[0] = 'X'
	wantText(t, d, 0, "text")
	must(t, d.Flush())
	spare[1] = 'X'
	wantText(t, d, 0, "text")

	must(t, d.Write(0, []byte("a")))
	must(t, d.Write(1, []byte("b")))
	kept := []bool{false, true, true}
	d.Start(kept)
	if !slices.Equal(kept, []bool{false, true, true}) {
		t.Errorf("Start changed its argument: %v", kept)
	}
	kept[0], kept[1] = true, false
	wantText(t, d, 0, "text")
	wantText(t, d, 1, "b")
}

// fill writes over a list and the spare room behind it.
func fill[E any](l []E, with E) {
	l = l[:cap(l)]
	for i := range l {
		l[i] = with
	}
}

// P6: an answer is new memory, and shares none with the device or another answer.
func TestAnswersAlone(t *testing.T) {
	d := device(t, 3)
	must(t, d.Write(0, []byte("safe")))
	must(t, d.Flush())
	must(t, d.Write(2, []byte("loose")))
	must(t, d.Write(1, []byte("mid")))
	for sector, text := range []string{"safe", "mid", "loose"} {
		one, err := d.Read(sector)
		must(t, err)
		two, err := d.Read(sector)
		must(t, err)
		fill(one, 'X')
		if !bytes.Equal(two, block(text)) {
			t.Errorf("two answers of Read share memory: %q", two)
		}
		wantText(t, d, sector, text)
	}
	one, two := d.Loose(), d.Loose()
	fill(one, 9)
	if !slices.Equal(two, []int{1, 2}) {
		t.Errorf("two answers of Loose share memory: %v", two)
	}
	wantLoose(t, d, 1, 2)
}

// P6: two devices have nothing in common.
func TestDevicesAlone(t *testing.T) {
	a, b := device(t, 2), device(t, 2)
	must(t, a.Write(0, []byte("a")))
	must(t, a.Arm(0))
	must(t, b.Write(0, []byte("b")))
	a.Lose()
	wantState(t, b, false, false)
	wantText(t, b, 0, "b")
	wantLoose(t, b, 0)
	a.Replace()
	wantText(t, a, 0, "")
	if a.Writes() != 1 || b.Writes() != 1 {
		t.Errorf("Writes: %d, %d", a.Writes(), b.Writes())
	}
}
