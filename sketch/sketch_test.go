package sketch_test

import (
	"math"
	"math/rand"
	"slices"
	"strings"
	"testing"

	"drydock/api"
	"drydock/horner"
	"drydock/sketch"
)

// The calls as the chapter lists them.
var (
	_ [4]uint32                                    = sketch.Sketch{}
	_ func(b api.Block) sketch.Sketch              = sketch.Of
	_ func(a, b sketch.Sketch) int                 = sketch.Like
	_ func(l []sketch.Sketch, s sketch.Sketch) int = sketch.Best
	_ func(part int, w []byte) uint32              = sketch.Window
)

// lastBits are parts, the outmost numbers among them, and the byte that the last eight bits are.
var lastBits = []struct {
	part int
	bits byte
}{
	{0, 0}, {1, 1}, {2, 2}, {3, 3}, {4, 4}, {127, 127}, {128, 128}, {254, 254}, {255, 255},
	{256, 0}, {257, 1}, {258, 2}, {259, 3}, {511, 255}, {512, 0}, {1000, 232}, {1 << 16, 0}, {1<<16 + 3, 3},
	{-1, 255}, {-2, 254}, {-128, 128}, {-253, 3}, {-254, 2}, {-255, 1}, {-256, 0}, {-257, 255}, {-512, 0}, {-1000, 24},
	{math.MaxInt32, 255}, {math.MaxInt32 + 1, 0}, {math.MinInt32, 0}, {math.MinInt32 - 1, 255}, {math.MaxUint32, 255}, {1 << 32, 0}, {1<<32 + 3, 3},
	{modulus, 255}, {modulus + 1, 0}, {math.MaxInt, 255}, {math.MaxInt - 1, 254}, {math.MaxInt - 255, 0}, {math.MaxInt - 254, 1},
	{math.MinInt, 0}, {math.MinInt + 1, 1}, {math.MinInt + 3, 3}, {math.MinInt + 255, 255}, {math.MinInt + 256, 0},
}

// summed are windows of eight bytes, of fewer and of more, and their sums for the parts 0 to 3, and for 255.
var summed = []struct {
	w    string
	sums [parts]uint32
	last uint32
}{
	{"", [parts]uint32{257, 258, 259, 260}, 512},
	{"\x00", [parts]uint32{66049, 66306, 66563, 66820}, 131584},
	{"a", [parts]uint32{66146, 66403, 66660, 66917}, 131681},
	{"ab", [parts]uint32{16999620, 17065669, 17131718, 17197767}, 33842115},
	{"abcdefg", [parts]uint32{780792672, 1403856039, 2026919406, 502499126}, 748161379},
	{"abcdefgh", [parts]uint32{947737637, 13749431, 1227244872, 293256666}, 1151429924},
	{"abcdefghi", [parts]uint32{902920703, 1386120225, 1869319747, 205035622}, 1712230934},
	{strings.Repeat("\x00", 8), [parts]uint32{483199522, 1696694963, 762706757, 1976202198}, 686891809},
	{strings.Repeat("\xff", 8), [parts]uint32{483995194, 1697490635, 763502429, 1976997870}, 687687481},
	{strings.Repeat("\x00", 64), [parts]uint32{2074758312, 110822972, 294371279, 477919586}, 1634936363},
	{strings.Repeat("\xff", 64), [parts]uint32{1032852865, 1216401172, 1399949479, 1583497786}, 593030916},
}

// noughts are, for each part, a window whose sum is 0, so that none has a lower one.
var noughts = [parts]string{
	"\x00\x00\x00\x00\x62\x0b\xb8\xb8",
	"\x00\x00\x00\x00\x1a\x8f\x10\x93",
	"\x00\x00\x00\x00\x51\x94\xe7\xee",
	"\x00\x00\x00\x00\x0a\x17\x3f\xc9",
}

// sketched are blocks, and what they look like.
var sketched = []struct {
	b    api.Block
	want sketch.Sketch
}{
	{api.Block{}, sketch.Sketch{483199522, 1696694963, 762706757, 1976202198}},
	{row(255, 0), sketch.Sketch{483995194, 1697490635, 763502429, 1976997870}},
	{row('a', 0), sketch.Sketch{3476433, 1216971874, 282983668, 1496479109}},
	{row(0, 1), sketch.Sketch{12688534, 13484207, 14279880, 15075553}},
	{row(255, 255), sketch.Sketch{19722303, 20517976, 21313649, 22109322}},
	{row(1, 3), sketch.Sketch{31908408, 7246110, 8307007, 34295427}},
	{api.Block{7}, sketch.Sketch{483199522, 1696694963, 762706757, 1976202198}},
	{api.Block{63: 7}, sketch.Sketch{483199522, 1696694963, 762706757, 1976202198}},
	{with(api.Block{}, 0, noughts[0]), sketch.Sketch{0, 45216854, 279507235, 200492923}},
	{with(api.Block{}, 56, noughts[3]), sketch.Sketch{483199522, 1696694963, 762706757, 0}},
}

// wantWindow checks a window's sum for a part.
func wantWindow(t *testing.T, part int, w []byte, want uint32) {
	t.Helper()
	if got := sketch.Window(part, w); got != want {
		t.Fatalf("Window(%d, % x): %d, want %d", part, w, got, want)
	}
}

// wantOf checks a block's sketch.
func wantOf(t *testing.T, b api.Block, want sketch.Sketch) {
	t.Helper()
	if got := sketch.Of(b); got != want {
		t.Fatalf("Of(% x): %d, want %d", b, got, want)
	}
}

// wantLike checks how like two sketches are, whichever is named first.
func wantLike(t *testing.T, a, b sketch.Sketch, want int) {
	t.Helper()
	if got, back := sketch.Like(a, b), sketch.Like(b, a); got != want || back != want {
		t.Fatalf("Like(%d, %d): %d, and the other way %d, want %d", a, b, got, back, want)
	}
}

// SK1: sums of windows that are known, of no bytes, of eight, and of fewer and more.
func TestWindow(t *testing.T) {
	for _, c := range summed {
		for part, want := range c.sums {
			wantWindow(t, part, []byte(c.w), want)
		}
		wantWindow(t, 255, []byte(c.w), c.last)
	}
	for part, w := range noughts {
		wantWindow(t, part, []byte(w), 0)
	}
}

// SK1: of a part the last eight bits alone count.
func TestLastBits(t *testing.T) {
	for _, p := range lastBits {
		for _, c := range summed {
			wantWindow(t, p.part, []byte(c.w), horner.Sum(append([]byte{p.bits}, c.w...)))
		}
	}
	for bits := range 256 {
		w := []byte("a window")
		want := sumOf(byte(bits), w)
		for _, over := range []int{0, 1, -1, 2, -2, 255, 256, 257, 1 << 23, -1 << 23, 1 << 24, 1 << 31, 1 << 32, 1<<55 - 1, -1 << 55} {
			wantWindow(t, over*256+bits, w, want)
		}
	}
}

// SK1: a window of no bytes is the part alone, nil or not.
func TestWindowOfNothing(t *testing.T) {
	for _, p := range lastBits {
		for _, w := range [][]byte{nil, {}, []byte("a window")[:0]} {
			wantWindow(t, p.part, w, 257+uint32(p.bits))
		}
	}
}

// SK1: any window's sum, whatever its length, is that of the part's byte and of the window.
func TestWindowIsTheSum(t *testing.T) {
	rnd := rand.New(rand.NewSource(1))
	for n := range 5000 {
		part, w := int(rnd.Uint64()), anyBytes(rnd, rnd.Intn(20))
		if n%2 == 0 {
			part = lastBits[rnd.Intn(len(lastBits))].part
		}
		wantWindow(t, part, w, sumOf(byte(part), w))
		wantWindow(t, part, w, horner.Sum(append([]byte{byte(part)}, w...)))
	}
}

// SK1: sketches that are known.
func TestOf(t *testing.T) {
	for _, c := range sketched {
		wantOf(t, c.b, c.want)
	}
}

// SK1: of any block the least sum of its 57 windows counts, for each part: each window is the least of some of them.
func TestOfIsTheLeast(t *testing.T) {
	rnd := rand.New(rand.NewSource(2))
	var least [parts][windows]int
	for range 1500 {
		b := anyBlock(rnd)
		wantOf(t, b, modelOf(b))
		for part := range parts {
			sums := sumsOf(part, b)
			least[part][slices.Index(sums, slices.Min(sums))]++
		}
	}
	for part := range parts {
		if at := slices.Index(least[part][:], 0); at >= 0 {
			t.Errorf("part %d: the window %d was never the least", part, at)
		}
	}
}

// SK1: a window with the least sum that there is counts at each of the 57 places, the first and the last too.
func TestEachWindow(t *testing.T) {
	rnd := rand.New(rand.NewSource(3))
	for part, w := range noughts {
		for at := range windows {
			for _, b := range []api.Block{{}, row(255, 0), anyBlock(rnd)} {
				b = with(b, at, w)
				if got := sketch.Of(b); got[part] != 0 {
					t.Errorf("part %d, the window at %d: %d, want 0", part, at, got[part])
				}
				wantOf(t, b, modelOf(b))
			}
		}
	}
}

// SK1: a window that has no room at the end of the block is none, whether it breaks off there or goes on at the begin.
func TestNoWindowBeyond(t *testing.T) {
	rnd := rand.New(rand.NewSource(4))
	for part, w := range noughts {
		for at := windows; at < api.BlockSize; at++ {
			inside := api.BlockSize - at
			for range 20 {
				b := with(anyBlock(rnd), at, w)
				wantOf(t, b, modelOf(b))
				if b = with(b, 0, w[inside:]); sketch.Of(b)[part] == 0 {
					t.Errorf("part %d: the window at %d counts", part, at)
				}
				wantOf(t, b, modelOf(b))
			}
		}
	}
}

// SK1: sums are least as they are, not as the bytes are: blocks of two bytes only, in any order, and of one window again and again.
func TestOfPlainBlocks(t *testing.T) {
	rnd := rand.New(rand.NewSource(5))
	for range 300 {
		var b api.Block
		few := anyBytes(rnd, 2)
		for i := range b {
			b[i] = few[rnd.Intn(2)]
		}
		wantOf(t, b, modelOf(b))
		again := api.Block([]byte(strings.Repeat(string(b[:width]), api.BlockSize/width)))
		wantOf(t, again, modelOf(again))
	}
}

// SK1: none, some or all four are the same; the same sum at another part is not.
func TestLike(t *testing.T) {
	most := uint32(math.MaxUint32)
	for _, c := range []struct {
		a, b sketch.Sketch
		want int
	}{
		{sketch.Sketch{}, sketch.Sketch{}, 4},
		{sketch.Sketch{1, 2, 3, 4}, sketch.Sketch{1, 2, 3, 4}, 4},
		{sketch.Sketch{1, 2, 3, 4}, sketch.Sketch{5, 6, 7, 8}, 0},
		{sketch.Sketch{1, 2, 3, 4}, sketch.Sketch{1, 6, 7, 8}, 1},
		{sketch.Sketch{1, 2, 3, 4}, sketch.Sketch{5, 2, 7, 8}, 1},
		{sketch.Sketch{1, 2, 3, 4}, sketch.Sketch{5, 6, 3, 8}, 1},
		{sketch.Sketch{1, 2, 3, 4}, sketch.Sketch{5, 6, 7, 4}, 1},
		{sketch.Sketch{1, 2, 3, 4}, sketch.Sketch{1, 6, 7, 4}, 2},
		{sketch.Sketch{1, 2, 3, 4}, sketch.Sketch{5, 2, 3, 4}, 3},
		{sketch.Sketch{1, 2, 3, 4}, sketch.Sketch{1, 2, 3, 8}, 3},
		{sketch.Sketch{1, 2, 3, 4}, sketch.Sketch{4, 3, 2, 1}, 0},
		{sketch.Sketch{1, 2, 3, 4}, sketch.Sketch{2, 3, 4, 1}, 0},
		{sketch.Sketch{1, 2, 3, 4}, sketch.Sketch{2, 1, 3, 4}, 2},
		{sketch.Sketch{1, 1, 1, 1}, sketch.Sketch{1, 2, 2, 2}, 1},
		{sketch.Sketch{1, 1, 2, 2}, sketch.Sketch{2, 2, 1, 1}, 0},
		{sketch.Sketch{0, 1, 1, 1}, sketch.Sketch{1, 0, 0, 0}, 0},
		{sketch.Sketch{most, most, most, most}, sketch.Sketch{most, most, most, most}, 4},
		{sketch.Sketch{most, most, most, most}, sketch.Sketch{}, 0},
		{sketch.Sketch{most, most, most, most}, sketch.Sketch{0, most, most - 1, most >> 1}, 1},
		{sketch.Sketch{0, 0, 0, 0}, sketch.Sketch{modulus, 1 << 31, 1 << 16, 1 << 8}, 0},
	} {
		wantLike(t, c.a, c.b, c.want)
	}
}

// SK1: each bit of each part counts.
func TestLikeEachBit(t *testing.T) {
	rnd := rand.New(rand.NewSource(6))
	for part := range parts {
		for bit := range 32 {
			a := sketch.Sketch{rnd.Uint32(), rnd.Uint32(), rnd.Uint32(), rnd.Uint32()}
			b := a
			b[part] ^= 1 << bit
			wantLike(t, a, a, 4)
			wantLike(t, a, b, 3)
		}
	}
}

// SK1: any sketches of few numbers are as like as the model says: so often none, one, two, three and all four.
func TestLikeOfAny(t *testing.T) {
	rnd := rand.New(rand.NewSource(7))
	var seen [parts + 1]int
	for range 5000 {
		a, b := anySketch(rnd, 3), anySketch(rnd, 3)
		n := modelLike(a, b)
		seen[n]++
		wantLike(t, a, b, n)
	}
	if at := slices.Index(seen[:], 0); at >= 0 {
		t.Errorf("no two were alike by %d", at)
	}
}
