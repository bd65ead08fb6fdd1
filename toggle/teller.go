package toggle

import (
	"math"

	"drydock/api"
	"drydock/pack"
)

// greatest is the greatest number that a teller may have, so that one more is a number too.
const greatest = math.MaxUint64 - 1

// teller is what an area's first sector tells.
type teller struct {
	number uint64
	second bool
	length int
}

// lay is a teller as bytes.
func (t teller) lay() []byte {
	return pack.New().Uint(t.number).Bool(t.second).Uint(uint64(t.length)).Done()
}

// tell is the teller that a sector's bytes begin with, of a text of at most so many bytes; ErrNone of noughts alone.
func tell(b []byte, room int) (teller, error) {
	if api.Block(b) == (api.Block{}) {
		return teller{}, api.ErrNone
	}
	r := pack.Read(b)
	number := r.Uint(greatest)
	second := r.Bool()
	length := r.Uint(uint64(room))
	if r.Err() != nil || number == 0 {
		return teller{}, api.ErrForm
	}
	return teller{number: number, second: second, length: int(length)}, nil
}
