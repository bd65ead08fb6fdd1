package horner_test

import (
	"bytes"
	"math"
	"math/rand"
	"testing"

	"drydock/api"
	"drydock/horner"
)

// fill writes over bytes and the spare room behind them.
func fill(b []byte) {
	b = b[:cap(b)]
	for i := range b {
		b[i] = 'X'
	}
}

// P6: every call ends and none panics, whatever it is given.
func TestTotal(t *testing.T) {
	texts := [][]byte{nil, {}, {0}, {255}, {1, 0, 0}, {1, 0, 0, 0}, make([]byte, 5), bytes.Repeat([]byte{255}, api.MaxBlob)}
	for _, b := range texts {
		horner.Sum(b)
		horner.Seal(b)
		horner.Open(b)
		for _, sum := range sums {
			horner.More(sum, b[:min(len(b), 100)])
		}
	}
	for _, n := range append([]int{-1, math.MinInt32, math.MinInt}, counts...) {
		for _, a := range sums {
			for _, b := range sums {
				horner.Join(a, b, n)
			}
		}
	}
}

// P6: all sums are below the modulus, of whatever numbers they are made.
func TestSumsAreRemainders(t *testing.T) {
	rnd := rand.New(rand.NewSource(10))
	for range 20000 {
		b := anyBytes(rnd, rnd.Intn(12))
		join, _ := horner.Join(anySum(rnd), anySum(rnd), len(b))
		for _, sum := range []uint32{horner.Sum(b), horner.More(anySum(rnd), b), join} {
			if sum >= modulus {
				t.Fatalf("a sum of % x: %d", b, sum)
			}
		}
	}
}

// P6: the same call answers the same, whatever was asked between.
func TestSameAgain(t *testing.T) {
	b := []byte("some text")
	sum, seal := horner.Sum(b), horner.Seal(b)
	for n := range 5 {
		horner.More(sum, seal)
		horner.Join(sum, sum, n)
		horner.Open(b)
		if horner.Sum(b) != sum || !bytes.Equal(horner.Seal(b), seal) {
			t.Errorf("%d: %d, % x, were %d, % x", n, horner.Sum(b), horner.Seal(b), sum, seal)
		}
		wantOpen(t, seal, "some text")
	}
}

// P6: an argument is not changed, nor the spare room behind it.
func TestArgumentsAlone(t *testing.T) {
	for _, text := range []string{"", "a", "ab\x62\x01\x00\x00", "\x01\x00\x00\x00", "a\x62\x01\x00\x00"} {
		b := append(make([]byte, 0, len(text)+16), text...)
		spare := b[:cap(b)]
		for i := range spare[len(text):] {
			spare[len(text)+i] = 's'
		}
		before := bytes.Clone(spare)
		horner.Sum(b)
		horner.More(7, b)
		horner.Seal(b)
		horner.Open(b)
		if !bytes.Equal(spare, before) {
			t.Errorf("%q: changed to % x", text, spare)
		}
	}
}

// P6: an answer is new memory, spare room too: it shares none with the argument or another answer.
func TestAnswersAlone(t *testing.T) {
	calls := map[string]func(b []byte) []byte{
		"Seal": horner.Seal,
		"Open": func(b []byte) []byte { a, _ := horner.Open(b); return a },
	}
	for what, call := range calls {
		for _, text := range []string{"", "a", "some text"} {
			laid := horner.Seal([]byte(text))
			b := append(make([]byte, 0, 2*len(laid)), laid...)
			before := bytes.Clone(b[:cap(b)])
			one, two := call(b), call(b)
			want := bytes.Clone(two)
			fill(one)
			if !bytes.Equal(two, want) {
				t.Errorf("%s: two answers share memory: % x", what, two)
			}
			if !bytes.Equal(b[:cap(b)], before) {
				t.Errorf("%s: an answer shares the argument's memory: % x", what, b[:cap(b)])
			}
			fill(b)
			if !bytes.Equal(two, want) {
				t.Errorf("%s keeps its argument: % x", what, two)
			}
		}
	}
}
