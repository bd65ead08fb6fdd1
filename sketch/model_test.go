package sketch_test

import (
	"math/big"
	"math/rand"
	"slices"

	"drydock/api"
	"drydock/sketch"
)

const (
	parts   = 4  // of a sketch
	width   = 8  // bytes of a window
	windows = 57 // of a block
	modulus = 1<<31 - 1
)

// sumOf is the remainder of the number whose digits are 1, a part's byte and a window's ones, told in whole numbers.
func sumOf(part byte, w []byte) uint32 {
	n := big.NewInt(257 + int64(part))
	for _, c := range w {
		n.Mul(n, big.NewInt(257))
		n.Add(n, big.NewInt(int64(c)))
	}
	return uint32(n.Mod(n, big.NewInt(modulus)).Uint64())
}

// cut are a block's windows, in their order.
func cut(b api.Block) [][]byte {
	var l [][]byte
	for at := 0; at+width <= len(b); at++ {
		l = append(l, b[at:at+width])
	}
	return l
}

// sumsOf are the sums of a block's windows for a part, in their order.
func sumsOf(part int, b api.Block) []uint32 {
	var l []uint32
	for _, w := range cut(b) {
		l = append(l, sumOf(byte(part), w))
	}
	return l
}

// modelOf is a block's sketch, told without the program.
func modelOf(b api.Block) sketch.Sketch {
	var s sketch.Sketch
	for part := range parts {
		s[part] = slices.Min(sumsOf(part, b))
	}
	return s
}

// modelLike is how many parts are alike, told without the program.
func modelLike(a, b sketch.Sketch) int {
	alike := [parts]int{}
	for part := range parts {
		if a[part] == b[part] {
			alike[part] = 1
		}
	}
	return alike[0] + alike[1] + alike[2] + alike[3]
}

// modelBest is the first place with all four alike, or with three, two or one, where there is none with more.
func modelBest(l []sketch.Sketch, s sketch.Sketch) int {
	for n := parts; n > 0; n-- {
		if at := slices.IndexFunc(l, func(other sketch.Sketch) bool { return modelLike(other, s) == n }); at >= 0 {
			return at
		}
	}
	return -1
}

// row is a block whose bytes go on from a first one, each so much above the one ahead.
func row(first, step byte) api.Block {
	var b api.Block
	for i := range b {
		b[i] = first + byte(i)*step
	}
	return b
}

// with is a block with other bytes from a place on, as many as have room there.
func with(b api.Block, at int, w string) api.Block {
	copy(b[at:], w)
	return b
}

// moved is a block behind so many other bytes; what has no room any more is gone.
func moved(b api.Block, ahead []byte) api.Block {
	return with(with(b, len(ahead), string(b[:])), 0, string(ahead))
}

// anyBytes are so many, picked by rnd.
func anyBytes(rnd *rand.Rand, size int) []byte {
	b := make([]byte, size)
	rnd.Read(b)
	return b
}

// anyBlock is picked by rnd.
func anyBlock(rnd *rand.Rand) api.Block { return api.Block(anyBytes(rnd, api.BlockSize)) }

// anySketch is picked by rnd, of so many numbers: the fewer, the more is alike.
func anySketch(rnd *rand.Rand, numbers int) sketch.Sketch {
	var s sketch.Sketch
	for part := range parts {
		s[part] = uint32(rnd.Intn(numbers))
	}
	return s
}
