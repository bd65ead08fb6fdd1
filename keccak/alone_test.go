package keccak_test

import (
	"bytes"
	"math"
	"math/rand"
	"testing"

	"drydock/keccak"
)

// fill writes over bytes and the spare room behind them.
func fill(b []byte) {
	b = b[:cap(b)]
	for i := range b {
		b[i] = 'X'
	}
}

// texts are bytes of all kinds.
var texts = [][]byte{nil, {}, {0}, {255}, {6}, {31}, {128}, []byte("abc"), make([]byte, rate-1), make([]byte, rate), make([]byte, rate+1), bytes.Repeat([]byte{255}, 5*rate)}

// P6: every call ends and none panics, whatever it is given.
func TestTotal(t *testing.T) {
	counts := []int{math.MinInt, math.MinInt32, -1, 0, 1, rate - 1, rate, rate + 1, longest, longest + 1, math.MaxInt32, math.MaxInt}
	var none *keccak.State
	for _, s := range []*keccak.State{keccak.New(), none} {
		for _, b := range texts {
			keccak.Text(keccak.Sum(b))
			for _, n := range counts {
				keccak.Shake(b, n)
			}
			s.Write(b)
			keccak.Text(s.Sum())
		}
	}
}

// P6: the same call answers the same, whatever was asked between.
func TestSameAgain(t *testing.T) {
	for _, b := range texts {
		sum, shake := keccak.Sum(b), shakeOf(t, b, 3*rate)
		for n := range 5 {
			s := keccak.New()
			s.Write([]byte("another text"))
			s.Sum()
			keccak.Shake(shake, n*rate)
			if keccak.Sum(b) != sum || !bytes.Equal(shakeOf(t, b, 3*rate), shake) {
				t.Errorf("%d: of % x: %x, was %x, or its shake is another one", n, b, keccak.Sum(b), sum)
			}
		}
	}
}

// P6: an argument is not changed, nor the spare room behind it.
func TestArgumentsAlone(t *testing.T) {
	rnd := rand.New(rand.NewSource(9))
	for _, size := range []int{0, 1, 64, rate - 1, rate, rate + 1, 4*rate + 3} {
		spare := anyBytes(rnd, size+2*rate)
		before := bytes.Clone(spare)
		b := spare[:size]
		s := keccak.New()
		keccak.Sum(b)
		keccak.Shake(b, 3*rate)
		s.Write(b)
		s.Sum()
		s.Write(b)
		s.Sum()
		if !bytes.Equal(spare, before) {
			t.Errorf("%d bytes, or those behind them, were changed", size)
		}
	}
}

// P6: what was written is not kept: its place may be used for something else.
func TestWrittenNotKept(t *testing.T) {
	rnd := rand.New(rand.NewSource(10))
	s := keccak.New()
	var all []byte
	b := make([]byte, 2*rate)
	for range 100 {
		part := b[:rnd.Intn(len(b)+1)]
		rnd.Read(part)
		s.Write(part)
		all = append(all, part...)
		fill(b)
		wantSum(t, s, all)
	}
}

// P6: an answer is new memory, spare room too: it shares none with the argument or with another answer.
func TestAnswersAlone(t *testing.T) {
	for _, n := range []int{0, 1, 32, rate - 1, rate, rate + 1, 1000} {
		b := append(make([]byte, 0, 4*rate), "some text"...)
		before := bytes.Clone(b[:cap(b)])
		one, two := shakeOf(t, b, n), shakeOf(t, b, n)
		want := bytes.Clone(two)
		fill(one)
		if !bytes.Equal(two, want) || !bytes.Equal(shakeOf(t, b, n), want) {
			t.Errorf("two shakes of %d bytes share memory", n)
		}
		if !bytes.Equal(b[:cap(b)], before) {
			t.Errorf("a shake of %d bytes shares the argument's memory", n)
		}
		fill(b)
		if !bytes.Equal(two, want) {
			t.Errorf("a shake of %d bytes keeps its argument", n)
		}
	}
}

// P6: a sum that was answered stays, whatever is written behind it.
func TestSumStays(t *testing.T) {
	s := keccak.New()
	s.Write([]byte("abc"))
	h := s.Sum()
	s.Write([]byte("d"))
	if h != keccak.Sum([]byte("abc")) {
		t.Errorf("it went to %x", h)
	}
}
