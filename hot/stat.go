package hot

import (
	"drydock/api"
	"drydock/dev"
	"drydock/horner"
	"drydock/pack"
)

// States of a box.
const (
	Free = iota
	Open
	Sealed
	Limbo
)

// stat is what is known of a box: its state, how many bytes were laid in, and how many of them are of use.
type stat struct {
	state, bytes, useful int
}

// Encode is what is known of the boxes.
func (h *Hot) Encode() []byte {
	if h == nil {
		return nil
	}
	w := pack.New().Uint(uint64(len(h.boxes)))
	for _, x := range h.boxes {
		w.Uint(uint64(x.state)).Uint(uint64(x.bytes)).Uint(uint64(x.useful))
	}
	return horner.Seal(w.Done())
}

// Decode are boxes, as they were known.
func Decode(d *dev.Dev, c Config, b []byte) (*Hot, error) {
	h, err := New(d, c)
	if err != nil {
		return nil, err
	}
	text, err := horner.Open(b)
	if err != nil {
		return nil, err
	}
	if !h.tell(pack.Read(text)) {
		return nil, api.ErrForm
	}
	return h, nil
}

// tell takes what is known of the boxes off bytes; false, if they have not that form.
func (h *Hot) tell(r *pack.Reader) bool {
	if r.Uint(mostBoxes) != uint64(len(h.boxes)) {
		return false
	}
	for i := range h.boxes {
		x := tellStat(r, h.c.size())
		if !x.canBe() || x.state == Open && h.find(Open) >= 0 {
			return false
		}
		h.boxes[i] = x
	}
	return r.Done() == nil
}

// tellStat takes off what is known of a box that has room for so many bytes; the reader's error tells of a number above its bound.
func tellStat(r *pack.Reader, size int) stat {
	var x stat
	x.state = int(r.Uint(Limbo))
	x.bytes = int(r.Uint(uint64(size)))
	x.useful = int(r.Uint(uint64(x.bytes)))
	return x
}

// canBe tells whether a box of its state has so many bytes, and so many of use, which are no more than its bytes.
func (x stat) canBe() bool {
	switch x.state {
	case Free:
		return x.bytes == 0
	case Limbo:
		return x.useful == 0
	}
	return true
}
