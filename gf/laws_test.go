package gf_test

import (
	"testing"

	"drydock/gf"
)

// square is what a call answers of any two numbers.
type square [256][256]byte

// all are a call's answers.
func all(call func(a, b byte) byte) *square {
	s := new(square)
	for a := range s {
		for b := range s {
			s[a][b] = call(byte(a), byte(b))
		}
	}
	return s
}

// GF3: sums and products of two go in any order.
func TestAnyOrder(t *testing.T) {
	f := gf.New()
	sums, products := all(f.Add), all(f.Mul)
	for a := range 256 {
		for b := range 256 {
			if sums[a][b] != sums[b][a] {
				t.Errorf("Add(%d, %d): %d, the other way %d", a, b, sums[a][b], sums[b][a])
			}
			if products[a][b] != products[b][a] {
				t.Errorf("Mul(%d, %d): %d, the other way %d", a, b, products[a][b], products[b][a])
			}
		}
	}
}

// GF3: sums and products of any three go in any brackets, and products go over sums.
func TestAnyBrackets(t *testing.T) {
	f := gf.New()
	sums, products := all(f.Add), all(f.Mul)
	for a := range 256 {
		for b := range 256 {
			for c := range 256 {
				if sums[sums[a][b]][c] != sums[a][sums[b][c]] {
					t.Fatalf("sums of %d, %d, %d: other ones in other brackets", a, b, c)
				}
				if products[products[a][b]][c] != products[a][products[b][c]] {
					t.Fatalf("products of %d, %d, %d: other ones in other brackets", a, b, c)
				}
				if products[a][sums[b][c]] != sums[products[a][b]][products[a][c]] {
					t.Fatalf("%d times the sum of %d and %d: not the sum of products", a, b, c)
				}
			}
		}
	}
}

// GF3: 0 changes no sum, and 1 no product; with 0 each product is 0, and no other one is.
func TestNothingAndOne(t *testing.T) {
	f := gf.New()
	for i := range 256 {
		a := byte(i)
		if f.Add(a, 0) != a || f.Add(0, a) != a {
			t.Errorf("%d and 0: %d, %d", a, f.Add(a, 0), f.Add(0, a))
		}
		if f.Mul(a, 1) != a || f.Mul(1, a) != a {
			t.Errorf("%d times 1: %d, %d", a, f.Mul(a, 1), f.Mul(1, a))
		}
		for j := range 256 {
			b := byte(j)
			if none := f.Mul(a, b) == 0; none != (i == 0 || j == 0) {
				t.Errorf("Mul(%d, %d): %d", a, b, f.Mul(a, b))
			}
		}
	}
}

// GF3: each number has one with which its sum is 0, itself; each but 0 has an inverse, just one, whose inverse it is.
func TestInverses(t *testing.T) {
	f := gf.New()
	var seen [256]bool
	for i := range 256 {
		a := byte(i)
		for j := range 256 {
			if none := f.Add(a, byte(j)) == 0; none != (i == j) {
				t.Errorf("Add(%d, %d): %d", i, j, f.Add(a, byte(j)))
			}
		}
		if i == 0 {
			continue
		}
		inv := inverse(t, f, a)
		if f.Mul(a, inv) != 1 || f.Mul(inv, a) != 1 || inverse(t, f, inv) != a {
			t.Errorf("%d and its inverse %d: %d", a, inv, f.Mul(a, inv))
		}
		if seen[inv] {
			t.Errorf("%d is the inverse of two", inv)
		}
		seen[inv] = true
	}
}

// GF3: what is multiplied by a number, and parted by it, is what it was, and the other way.
func TestThereAndBack(t *testing.T) {
	f := gf.New()
	for i := range 256 {
		for j := 1; j < 256; j++ {
			a, b := byte(i), byte(j)
			if got := part(t, f, f.Mul(a, b), b); got != a {
				t.Errorf("%d times %d, by it: %d", a, b, got)
			}
			if got := f.Mul(part(t, f, a, b), b); got != a {
				t.Errorf("%d by %d, times it: %d", a, b, got)
			}
			if got := f.Mul(a, inverse(t, f, b)); got != part(t, f, a, b) {
				t.Errorf("%d times the inverse of %d: %d, want %d", a, b, got, part(t, f, a, b))
			}
		}
	}
}

// GF3, GF2: each number but 0 is a power of 2, just one of the 255, whose exponent is its logarithm.
func TestEachIsOnePower(t *testing.T) {
	f := gf.New()
	seen := [256]int{}
	for n := range 255 {
		a := f.Exp(n)
		seen[a]++
		if got := logarithm(t, f, a); got != n {
			t.Errorf("Log(%d): %d, want %d", a, got, n)
		}
	}
	for a, times := range seen {
		if want := min(a, 1); times != want {
			t.Errorf("%d is %d powers of 2, want %d", a, times, want)
		}
	}
	for i := 1; i < 256; i++ {
		a := byte(i)
		if n := logarithm(t, f, a); n < 0 || n > 254 || f.Exp(n) != a {
			t.Errorf("Log(%d): %d, whose power is %d", a, n, f.Exp(n))
		}
	}
}

// GF2: powers of one number: exponents' sums are powers' products.
func TestPowersMultiplied(t *testing.T) {
	f := gf.New()
	exponents := []int{-511, -256, -255, -254, -2, -1, 0, 1, 2, 3, 7, 128, 254, 255, 256, 510, 1000000}
	for _, n := range exponents {
		for _, m := range exponents {
			if got, want := f.Mul(f.Exp(n), f.Exp(m)), f.Exp(n+m); got != want {
				t.Errorf("Exp(%d) times Exp(%d): %d, want %d", n, m, got, want)
			}
			for i := 1; i < 256; i++ {
				a := byte(i)
				if got, want := f.Mul(f.Pow(a, n), f.Pow(a, m)), f.Pow(a, n+m); got != want {
					t.Errorf("Pow(%d, %d) times Pow(%d, %d): %d, want %d", a, n, a, m, got, want)
				}
				if got, want := f.Pow(f.Pow(a, n), m), f.Pow(a, n*m); got != want {
					t.Errorf("Pow of Pow(%d, %d), %d: %d, want %d", a, n, m, got, want)
				}
			}
		}
	}
}
