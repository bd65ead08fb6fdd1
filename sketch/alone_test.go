package sketch_test

import (
	"bytes"
	"math/rand"
	"slices"
	"testing"

	"drydock/api"
	"drydock/sketch"
)

// P6: every call ends and none panics, whatever it is given.
func TestTotal(t *testing.T) {
	many := make([]sketch.Sketch, 1<<17)
	sketches := []sketch.Sketch{{}, {1<<32 - 1, 1<<32 - 1, 1<<32 - 1, 1<<32 - 1}, {0, 1, modulus, modulus + 1}}
	for _, c := range sketched {
		sketches = append(sketches, sketch.Of(c.b))
	}
	for _, s := range sketches {
		for _, l := range [][]sketch.Sketch{nil, {}, {{}}, sketches, many} {
			sketch.Best(l, s)
		}
		for _, other := range sketches {
			sketch.Like(s, other)
		}
	}
	for _, p := range lastBits {
		for _, w := range [][]byte{nil, {}, {0}, make([]byte, 7), make([]byte, 9), make([]byte, 64), make([]byte, 300)} {
			sketch.Window(p.part, w)
		}
	}
	long := bytes.Repeat([]byte{255}, api.MaxBlob+1)
	for _, part := range []int{-1, 0, 3, 256} {
		sketch.Window(part, long)
	}
}

// P6: the sums are remainders.
func TestSumsAreRemainders(t *testing.T) {
	rnd := rand.New(rand.NewSource(14))
	for range 3000 {
		if w := anyBytes(rnd, rnd.Intn(12)); sketch.Window(int(rnd.Uint64()), w) >= modulus {
			t.Fatalf("a sum of % x is above all", w)
		}
		if s := sketch.Of(anyBlock(rnd)); slices.Max(s[:]) >= modulus {
			t.Fatalf("a sketch is above all: %d", s)
		}
	}
}

// P6: the same call answers the same, whatever was asked between.
func TestSameAgain(t *testing.T) {
	rnd := rand.New(rand.NewSource(15))
	for _, c := range sketched {
		b, other := c.b, anyBlock(rnd)
		s, w := sketch.Of(b), slices.Clone(b[9:17])
		l := []sketch.Sketch{sketch.Of(other), s, s}
		sum, like, best := sketch.Window(2, w), sketch.Like(s, l[0]), sketch.Best(l, s)
		for part := range 10 {
			sketch.Of(anyBlock(rnd))
			sketch.Window(part, anyBytes(rnd, part))
			sketch.Best([]sketch.Sketch{s, sketch.Of(anyBlock(rnd))}, l[0])
			sketch.Like(sketch.Of(anyBlock(rnd)), s)
			if sketch.Of(b) != s || sketch.Window(2, w) != sum || sketch.Like(s, l[0]) != like || sketch.Best(l, s) != best {
				t.Fatalf("of % x: other answers, the second time", b)
			}
		}
	}
}

// P6: what was handed in reads afterwards as it did, the spare room behind it and what is ahead too.
func TestArgumentsAlone(t *testing.T) {
	rnd := rand.New(rand.NewSource(16))
	for size := range 20 {
		all := anyBytes(rnd, 60)
		before := bytes.Clone(all)
		for _, p := range lastBits {
			if sketch.Window(p.part, all[20:20+size]); !bytes.Equal(all, before) {
				t.Fatalf("Window(%d) of %d bytes: changed to % x, was % x", p.part, size, all, before)
			}
		}
		sketches := make([]sketch.Sketch, 60)
		for i := range sketches {
			sketches[i] = anySketch(rnd, 4)
		}
		was, s := slices.Clone(sketches), anySketch(rnd, 4)
		mine := s
		sketch.Best(sketches[20:20+size], s)
		sketch.Like(sketches[20], s)
		if !slices.Equal(sketches, was) || s != mine {
			t.Fatalf("Best of %d: changed to %d and %d, was %d and %d", size, sketches, s, was, mine)
		}
	}
	for _, c := range sketched {
		b := c.b
		if sketch.Of(b); b != c.b {
			t.Errorf("Of: changed to % x, was % x", b, c.b)
		}
	}
}

// P6: nothing that was handed in is kept, and no answer is another one's memory.
func TestAnswersAlone(t *testing.T) {
	for _, c := range sketched {
		b := c.b
		one, two := sketch.Of(b), sketch.Of(b)
		clear(one[:])
		clear(b[:])
		if two != c.want {
			t.Errorf("Of shares memory: %d, was %d", two, c.want)
		}
		wantOf(t, c.b, c.want)
		wantOf(t, b, modelOf(b))
	}
	for _, c := range summed {
		w := []byte(c.w)
		wantWindow(t, 1, w, c.sums[1])
		for i := range w {
			w[i]++
		}
		wantWindow(t, 1, w, sumOf(1, w))
		wantWindow(t, 1, []byte(c.w), c.sums[1])
	}
	l := slices.Clone(likeBy[:])
	wantBest(t, l, likeBy[4], 4)
	clear(l)
	wantBest(t, l, likeBy[4], -1)
	wantBest(t, likeBy[:], likeBy[4], 4)
}
