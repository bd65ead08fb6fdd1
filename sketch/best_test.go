package sketch_test

import (
	"math/rand"
	"slices"
	"testing"

	"drydock/sketch"
)

// wantBest checks which place has the sketch that is most like one.
func wantBest(t *testing.T, l []sketch.Sketch, s sketch.Sketch, want int) {
	t.Helper()
	if got := sketch.Best(l, s); got != want {
		t.Fatalf("Best(%d, %d): %d, want %d", l[:min(len(l), 20)], s, got, want)
	}
}

// likeBy are sketches that are like 1 2 3 4 by as many as their place here says.
var likeBy = [parts + 1]sketch.Sketch{{4, 3, 2, 1}, {9, 9, 3, 9}, {1, 9, 9, 4}, {1, 2, 9, 4}, {1, 2, 3, 4}}

// listOf is a list of sketches that are like 1 2 3 4 by these numbers.
func listOf(by []int) []sketch.Sketch {
	var l []sketch.Sketch
	for _, n := range by {
		l = append(l, likeBy[n])
	}
	return l
}

// SK2: the first place with the most, wherever it stands; -1 of no list, and where none has any.
func TestBest(t *testing.T) {
	for _, c := range []struct {
		by   []int
		want int
	}{
		{nil, -1}, {[]int{0}, -1}, {[]int{0, 0, 0}, -1},
		{[]int{1}, 0}, {[]int{2}, 0}, {[]int{3}, 0}, {[]int{4}, 0},
		{[]int{0, 1}, 1}, {[]int{1, 0}, 0}, {[]int{0, 0, 4}, 2}, {[]int{0, 3, 0}, 1},
		{[]int{1, 1}, 0}, {[]int{4, 4, 4}, 0}, {[]int{0, 2, 2, 2}, 1}, {[]int{0, 1, 0, 1}, 1},
		{[]int{1, 2, 3, 4}, 3}, {[]int{4, 3, 2, 1}, 0}, {[]int{1, 2, 1, 2}, 1}, {[]int{3, 1, 4, 1}, 2},
		{[]int{2, 3, 3, 2}, 1}, {[]int{0, 3, 4, 3, 4}, 2}, {[]int{1, 1, 1, 1, 2}, 4},
	} {
		wantBest(t, listOf(c.by), likeBy[4], c.want)
	}
	wantBest(t, []sketch.Sketch{}, likeBy[4], -1)
	wantBest(t, nil, sketch.Sketch{}, -1)
}

// SK2: of a list in which one is alike it is told, whichever part that is, and whatever number it is there.
func TestBestOfOnePart(t *testing.T) {
	for part := range parts {
		for _, number := range []uint32{0, 1, modulus - 1, modulus, 1<<32 - 1} {
			s := sketch.Sketch{10, 20, 30, 40}
			s[part] = number
			other := sketch.Sketch{11, 21, 31, 41}
			l := []sketch.Sketch{other, other, other, other}
			wantBest(t, l, s, -1)
			for at := range l {
				one := slices.Clone(l)
				one[at][part] = number
				wantBest(t, one, s, at)
			}
			for next := 1; next < parts; next++ { // the same number, but at other parts
				moved := slices.Clone(l)
				moved[next][(part+next)%parts] = number
				wantBest(t, moved, s, -1)
			}
		}
	}
}

// SK2: a sketch of noughts is one as any other.
func TestBestOfNoughts(t *testing.T) {
	wantBest(t, []sketch.Sketch{{1, 1, 1, 1}, {}}, sketch.Sketch{}, 1)
	wantBest(t, []sketch.Sketch{{}, {}}, sketch.Sketch{}, 0)
	wantBest(t, []sketch.Sketch{{}, {}}, sketch.Sketch{1, 1, 1, 1}, -1)
	wantBest(t, []sketch.Sketch{{1, 0, 1, 1}, {0, 1, 0, 1}, {0, 0, 1, 1}}, sketch.Sketch{}, 1)
}

// SK2: any list, also of blocks' sketches, is gone through as the model says.
func TestBestOfAny(t *testing.T) {
	rnd := rand.New(rand.NewSource(8))
	for n := range 4000 {
		numbers := 2 + n%9
		var l []sketch.Sketch
		for range rnd.Intn(12) {
			l = append(l, anySketch(rnd, numbers))
		}
		s := anySketch(rnd, numbers)
		wantBest(t, l, s, modelBest(l, s))
	}
	var l []sketch.Sketch
	for range 300 {
		b := anyBlock(rnd)
		near := b
		near[rnd.Intn(len(near))]++
		wantBest(t, l, sketch.Of(b), modelBest(l, sketch.Of(b)))
		l = append(l, sketch.Of(b), sketch.Of(near), sketch.Of(moved(b, anyBytes(rnd, rnd.Intn(40)))))
		wantBest(t, l, sketch.Of(near), modelBest(l, sketch.Of(near)))
	}
}

// SK2: in a long list the first, the last and any place is told.
func TestBestOfMany(t *testing.T) {
	l := make([]sketch.Sketch, 70000)
	wantBest(t, l, likeBy[4], -1)
	for _, at := range []int{len(l) - 1, 65536, 65535, 256, 255, 1, 0} { // the later ones ahead: each is the first then
		l[at] = likeBy[2]
		wantBest(t, l, likeBy[4], at)
	}
	l[40000] = likeBy[3]
	wantBest(t, l, likeBy[4], 40000)
	l[len(l)-1] = likeBy[4]
	wantBest(t, l, likeBy[4], len(l)-1)
}
