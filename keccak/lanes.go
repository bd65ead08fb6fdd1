package keccak

import "math/bits"

const (
	rate   = 136 // how many bytes go in, or come out, between the rounds: those behind them are never seen
	rounds = 24
	side   = 5 // how many lanes a row has, and a column
)

// lanes are a state: the lane (x, y) stands at x + 5 y.
type lanes [side * side]uint64

// path is where the lane (1, 0) goes to, where the one that was there goes to, and so on till (1, 0) is come to again: (x, y) lies ahead of (y, (2 x + 3 y) % 5).
var path = [24]int{10, 7, 11, 17, 18, 3, 5, 16, 8, 21, 24, 4, 15, 23, 19, 13, 12, 2, 20, 14, 22, 9, 6, 1}

// xor xors a byte into the state's byte of a place.
func (a *lanes) xor(place int, c byte) {
	a[place/8] ^= uint64(c) << (8 * (place % 8))
}

// out are the bytes that come out.
func (a *lanes) out() [rate]byte {
	var b [rate]byte
	for place := range b {
		b[place] = byte(a[place/8] >> (8 * (place % 8)))
	}
	return b
}

// stir does all the rounds.
func (a *lanes) stir() {
	var constant uint64
	row := uint64(1)
	for range rounds {
		a.blend()
		a.move()
		a.bend()
		constant, row = next(row)
		a[0] ^= constant
	}
}

// blend xors each lane with the columns at its sides.
func (a *lanes) blend() {
	var columns [side]uint64 // as they are ahead of all xors
	for x := range side {
		columns[x] = a[x] ^ a[x+5] ^ a[x+10] ^ a[x+15] ^ a[x+20]
	}
	for x := range side {
		both := columns[(x+4)%side] ^ bits.RotateLeft64(columns[(x+1)%side], 1)
		for i := x; i < len(a); i += side {
			a[i] ^= both
		}
	}
}

// move turns each lane but (0, 0), and lets it go to another one's place.
func (a *lanes) move() {
	lane, turn := a[1], 0
	for i, to := range path {
		turn += i + 1 // t (t + 1) / 2 for t = i + 1
		lane, a[to] = a[to], bits.RotateLeft64(lane, turn%64)
	}
}

// bend xors each lane with bits of the two behind it in its row.
func (a *lanes) bend() {
	for i := 0; i < len(a); i += side {
		row := [side]uint64(a[i:]) // as it is ahead of all xors
		a[i] ^= row[2] &^ row[1]
		a[i+1] ^= row[3] &^ row[2]
		a[i+2] ^= row[4] &^ row[3]
		a[i+3] ^= row[0] &^ row[4]
		a[i+4] ^= row[1] &^ row[0]
	}
}

// next is the constant that the row of bits tells, and the row for the constant behind it.
func next(row uint64) (uint64, uint64) {
	var constant uint64
	for j := range 7 {
		constant |= row % 2 << (1<<j - 1)
		row *= 2
		if row > 255 {
			row = (row - 256) ^ 113
		}
	}
	return constant, row
}
