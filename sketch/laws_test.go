package sketch_test

import (
	"bytes"
	"math/rand"
	"slices"
	"testing"

	"drydock/api"
	"drydock/sketch"
)

// pairOf are two blocks that share some windows: one has bytes of the other at another place, or behind other ones, or few other ones.
func pairOf(rnd *rand.Rand) (api.Block, api.Block) {
	a := anyBlock(rnd)
	b := a
	switch rnd.Intn(3) {
	case 0:
		from, size := rnd.Intn(windows), width+rnd.Intn(30)
		b = with(anyBlock(rnd), rnd.Intn(windows), string(a[from:min(from+size, len(a))]))
	case 1:
		b = moved(a, anyBytes(rnd, rnd.Intn(50)))
	case 2:
		for range 1 + rnd.Intn(6) {
			b[rnd.Intn(len(b))] = byte(rnd.Intn(256))
		}
	}
	return a, b
}

// leastShared tells whether a window that both blocks have has the least sum of both for a part.
func leastShared(part int, a, b api.Block) bool {
	for _, w := range cut(a) {
		sum := sumOf(byte(part), w)
		if sum == slices.Min(sumsOf(part, a)) && sum == slices.Min(sumsOf(part, b)) && bytes.Contains(b[:], w) {
			return true
		}
	}
	return false
}

// SK3: a block is like itself by four, and the best of a list is itself, where none ahead looks the same.
func TestLikeItself(t *testing.T) {
	rnd := rand.New(rand.NewSource(9))
	blocks := []api.Block{}
	for _, c := range sketched {
		blocks = append(blocks, c.b)
	}
	for range 1000 {
		blocks = append(blocks, anyBlock(rnd))
	}
	for _, b := range blocks {
		other := b
		wantLike(t, sketch.Of(b), sketch.Of(other), 4)
		ahead := sketch.Of(anyBlock(rnd))
		wantBest(t, []sketch.Sketch{ahead, sketch.Of(b)}, sketch.Of(b), 1)
		wantBest(t, []sketch.Sketch{sketch.Of(b), sketch.Of(b)}, sketch.Of(b), 0)
	}
}

// SK3: a block is as like another one as that one is to it, and as the model says: by any number.
func TestAsLikeAsTheOther(t *testing.T) {
	rnd := rand.New(rand.NewSource(10))
	var seen [parts + 1]int
	for range 1000 {
		a, b := pairOf(rnd)
		n := modelLike(modelOf(a), modelOf(b))
		seen[n]++
		wantLike(t, sketch.Of(a), sketch.Of(b), n)
	}
	if at := slices.Index(seen[:], 0); at >= 0 {
		t.Errorf("no two were alike by %d", at)
	}
}

// SK3: a window that two blocks share, and that is the least of both, is alike, wherever it stands in each.
func TestSharedLeast(t *testing.T) {
	rnd := rand.New(rand.NewSource(11))
	for part, w := range noughts {
		for at := range windows {
			a, b := with(anyBlock(rnd), at, w), with(anyBlock(rnd), rnd.Intn(windows), w)
			s, other := sketch.Of(a), sketch.Of(b)
			if s[part] != other[part] || sketch.Like(s, other) == 0 {
				t.Errorf("part %d, shared % x: %d and %d", part, w, s, other)
			}
			wantBest(t, []sketch.Sketch{other}, s, 0)
		}
	}
}

// SK3: of blocks that share some windows those parts at least are alike for which one of these is the least of both.
func TestSharedLeastOfAny(t *testing.T) {
	rnd := rand.New(rand.NewSource(12))
	var shared [parts]int
	for range 300 {
		a, b := pairOf(rnd)
		s, other := sketch.Of(a), sketch.Of(b)
		least := 0
		for part := range parts {
			if !leastShared(part, a, b) {
				continue
			}
			least++
			shared[part]++
			if s[part] != other[part] {
				t.Fatalf("part %d of % x and % x: %d and %d", part, a, b, s[part], other[part])
			}
		}
		if got := sketch.Like(s, other); got < least {
			t.Fatalf("% x and % x share the least of %d, but are alike by %d", a, b, least, got)
		}
	}
	for part, n := range shared {
		if n < 50 {
			t.Errorf("part %d: of so few blocks the least is shared: %d", part, n)
		}
	}
}

// SK3: blocks that have the same windows, each at another place, are alike by four.
func TestSameWindows(t *testing.T) {
	rnd := rand.New(rand.NewSource(13))
	for range 200 {
		again := anyBytes(rnd, 1+rnd.Intn(50)) // a round of so many bytes, of which a block has all windows
		round := bytes.Repeat(again, 2*api.BlockSize)
		s := sketch.Of(api.Block(round[:api.BlockSize]))
		for at := range again {
			wantLike(t, s, sketch.Of(api.Block(round[at:at+api.BlockSize])), 4)
		}
	}
}
