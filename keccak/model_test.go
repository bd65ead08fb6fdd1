package keccak_test

import (
	"bytes"
	"math/rand"
	"testing"

	"drydock/keccak"
)

// rule is the numbers that the rounds hang on.
type rule struct {
	constants [24]uint64
	turns     [5][5]int // by x, then y
}

// told is the rule as it is known.
var told = rule{
	constants: [24]uint64{
		0x0000000000000001, 0x0000000000008082, 0x800000000000808a, 0x8000000080008000,
		0x000000000000808b, 0x0000000080000001, 0x8000000080008081, 0x8000000000008009,
		0x000000000000008a, 0x0000000000000088, 0x0000000080008009, 0x000000008000000a,
		0x000000008000808b, 0x800000000000008b, 0x8000000000008089, 0x8000000000008003,
		0x8000000000008002, 0x8000000000000080, 0x000000000000800a, 0x800000008000000a,
		0x8000000080008081, 0x8000000000008080, 0x0000000080000001, 0x8000000080008008,
	},
	turns: [5][5]int{
		{0, 36, 3, 41, 18},
		{1, 44, 10, 45, 2},
		{62, 6, 43, 15, 61},
		{28, 55, 25, 21, 56},
		{27, 20, 39, 8, 14},
	},
}

// chapter is the rule as the chapter tells it: bits from a row, and turns along a path.
func chapter() rule {
	var r rule
	number := 1
	for round := range r.constants {
		for j := range 7 {
			if number%2 == 1 {
				r.constants[round] |= 1 << (1<<j - 1)
			}
			number *= 2
			if number > 255 {
				number = (number - 256) ^ 113
			}
		}
	}
	x, y := 1, 0
	for t := 1; t <= 24; t++ {
		r.turns[x][y] = t * (t + 1) / 2 % 64
		x, y = y, (2*x+3*y)%5
	}
	return r
}

// grid is a state, by x, then y.
type grid [5][5]uint64

// turned is a lane turned, bit by bit.
func turned(lane uint64, n int) uint64 {
	var to uint64
	for bit := range 64 {
		to |= lane >> bit & 1 << ((bit + n) % 64)
	}
	return to
}

// round is a state a round on.
func (r *rule) round(a grid, constant uint64) grid {
	var columns [5]uint64
	for x := range 5 {
		for y := range 5 {
			columns[x] ^= a[x][y]
		}
	}
	var moved, g grid
	for x := range 5 {
		for y := range 5 {
			lane := a[x][y] ^ columns[(x+4)%5] ^ turned(columns[(x+1)%5], 1)
			moved[y][(2*x+3*y)%5] = turned(lane, r.turns[x][y])
		}
	}
	for x := range 5 {
		for y := range 5 {
			g[x][y] = moved[x][y] ^ ^moved[(x+1)%5][y]&moved[(x+2)%5][y]
		}
	}
	g[0][0] ^= constant
	return g
}

// rounds is a state 24 rounds on.
func (r *rule) rounds(a grid) grid {
	for _, constant := range r.constants {
		a = r.round(a, constant)
	}
	return a
}

// comes are so many bytes that come out of a text, behind which a mark stands.
func (r *rule) comes(text []byte, mark byte, n int) []byte {
	in := append(bytes.Clone(text), mark)
	for len(in)%rate != 0 {
		in = append(in, 0)
	}
	in[len(in)-1] ^= 128
	var a grid
	for i, c := range in {
		place := i % rate
		a[place/8%5][place/8/5] ^= uint64(c) << (place % 8 * 8)
		if place == rate-1 {
			a = r.rounds(a)
		}
	}
	var out []byte
	for i := range n {
		place := i % rate
		if place == 0 && i > 0 {
			a = r.rounds(a)
		}
		out = append(out, byte(a[place/8%5][place/8/5]>>(place%8*8)))
	}
	return out
}

// anyBytes are so many, picked by rnd.
func anyBytes(rnd *rand.Rand, size int) []byte {
	b := make([]byte, size)
	rnd.Read(b)
	return b
}

// KE1: the numbers that are known are those that the chapter's row of bits and its path tell.
func TestRuleOfChapter(t *testing.T) {
	if chapter() != told {
		t.Errorf("the chapter's: %v, want %v", chapter(), told)
	}
}

// KE1: sums and shakes of texts of all sizes up to three times the rate and more, as the model tells them.
func TestAsModel(t *testing.T) {
	rnd := rand.New(rand.NewSource(1))
	for size := range 3*rate + 3 {
		b := anyBytes(rnd, size)
		if got, want := sumOf(b), hex(told.comes(b, 6, printSize)); got != want {
			t.Fatalf("Sum(% x): %s, want %s", b, got, want)
		}
		n := rnd.Intn(3 * rate)
		if got, want := hex(shakeOf(t, b, n)), hex(told.comes(b, 31, n)); got != want {
			t.Fatalf("Shake(% x, %d): %s, want %s", b, n, got, want)
		}
	}
}

// KE1: shakes of all sizes around the multiples of the rate, as the model tells them.
func TestShakeAsModel(t *testing.T) {
	rnd := rand.New(rand.NewSource(2))
	for _, times := range []int{1, 2, 3, 7} {
		for n := times*rate - 2; n <= times*rate+2; n++ {
			b := anyBytes(rnd, rnd.Intn(2*rate))
			if got, want := hex(shakeOf(t, b, n)), hex(told.comes(b, 31, n)); got != want {
				t.Fatalf("Shake(% x, %d): %s, want %s", b, n, got, want)
			}
		}
	}
}

// KE1: each of the 24 constants' bits is in the sum: with another one it would be another.
func TestEachConstant(t *testing.T) {
	b := []byte("abc")
	h := keccak.Sum(b)
	for round := range told.constants {
		for bit := range 64 {
			other := told
			other.constants[round] ^= 1 << bit
			if bytes.Equal(other.comes(b, 6, printSize), h[:]) {
				t.Errorf("round %d has another bit %d", round, bit)
			}
		}
	}
}

// KE1: each lane's turning is in the sum: with another one it would be another.
func TestEachTurning(t *testing.T) {
	b := []byte("abc")
	h := keccak.Sum(b)
	for x := range 5 {
		for y := range 5 {
			for more := 1; more < 64; more++ {
				other := told
				other.turns[x][y] = (other.turns[x][y] + more) % 64
				if bytes.Equal(other.comes(b, 6, printSize), h[:]) {
					t.Errorf("(%d, %d) is turned by %d", x, y, other.turns[x][y])
				}
			}
		}
	}
}
