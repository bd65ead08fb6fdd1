package gf_test

import (
	"testing"

	"drydock/gf"
)

// product is the polynomials of two numbers multiplied, and what is left when that is divided, bit by bit, as the chapter tells it.
func product(a, b byte) byte {
	whole := 0
	for bit := range 8 {
		if b>>bit&1 == 1 {
			whole ^= int(a) << bit
		}
	}
	for bit := 14; bit >= 8; bit-- {
		if whole>>bit&1 == 1 {
			whole ^= 0b1_0001_1101 << (bit - 8)
		}
	}
	return byte(whole)
}

// counterpart is the number whose product with another one is 1, found by trying; 0: there is none.
func counterpart(a byte) byte {
	for b := range 256 {
		if product(a, byte(b)) == 1 {
			return byte(b)
		}
	}
	return 0
}

// GF1: all sums, products, inverses and parts are as the model tells them.
func TestAsModel(t *testing.T) {
	f := gf.New()
	for i := range 256 {
		b := byte(i)
		inv := counterpart(b)
		if i > 0 {
			if got := inverse(t, f, b); got != inv {
				t.Errorf("Inv(%d): %d, want %d", b, got, inv)
			}
		}
		for j := range 256 {
			a := byte(j)
			if got, want := f.Add(a, b), a&^b|b&^a; got != want {
				t.Errorf("Add(%d, %d): %d, want %d", a, b, got, want)
			}
			if got, want := f.Mul(a, b), product(a, b); got != want {
				t.Errorf("Mul(%d, %d): %d, want %d", a, b, got, want)
			}
			if i == 0 {
				continue
			}
			if got, want := part(t, f, a, b), product(a, inv); got != want {
				t.Errorf("Div(%d, %d): %d, want %d", a, b, got, want)
			}
		}
	}
}

// GF2: powers of 2 and logarithms, as one doubling behind the other tells them.
func TestDoublingsAsModel(t *testing.T) {
	f := gf.New()
	up := byte(1)
	for n := range 2000 {
		if got := f.Exp(n); got != up {
			t.Fatalf("Exp(%d): %d, want %d", n, got, up)
		}
		if got := logarithm(t, f, up); got != n%255 {
			t.Fatalf("Log(%d): %d, want %d", up, got, n%255)
		}
		up = product(up, 2)
	}
	half, down := counterpart(2), byte(1)
	for n := range 2000 {
		if got := f.Exp(-n); got != down {
			t.Fatalf("Exp(%d): %d, want %d", -n, got, down)
		}
		down = product(down, half)
	}
}

// GF2: powers of each number, as one product behind the other tells them; those below 0 are its inverse's.
func TestPowersAsModel(t *testing.T) {
	f := gf.New()
	for i := range 256 {
		a := byte(i)
		inv := counterpart(a) // of 0: 0, whose powers are those that the chapter asks for
		up, down := byte(1), byte(1)
		for n := range 600 {
			if got := f.Pow(a, n); got != up {
				t.Fatalf("Pow(%d, %d): %d, want %d", a, n, got, up)
			}
			if got := f.Pow(a, -n); got != down {
				t.Fatalf("Pow(%d, %d): %d, want %d", a, -n, got, down)
			}
			up, down = product(up, a), product(down, inv)
		}
	}
}

// GF2: at the outmost exponents a power is that of what is left of them by 255, of each number.
func TestOutmostExponents(t *testing.T) {
	f := gf.New()
	for n, rest := range outmost {
		want := byte(1)
		for range rest {
			want = product(want, 2)
		}
		if got := f.Exp(n); got != want {
			t.Errorf("Exp(%d): %d, want %d", n, got, want)
		}
		for i := range 256 {
			a, want := byte(i), byte(1)
			for range rest {
				want = product(want, a)
			}
			if i == 0 {
				want = 0 // though its exponent leave nothing: it is not 0
			}
			if got := f.Pow(a, n); got != want {
				t.Errorf("Pow(%d, %d): %d, want %d", a, n, got, want)
			}
		}
	}
}
