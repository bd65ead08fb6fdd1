package horner_test

import (
	"math/rand"
	"slices"
	"testing"

	"drydock/api"
	"drydock/horner"
)

// HN3: of a text cut in two at any place, both ways to put the sums together answer the whole one's.
func TestCutInTwo(t *testing.T) {
	rnd := rand.New(rand.NewSource(5))
	for range 200 {
		b := anyBytes(rnd, rnd.Intn(80))
		want := horner.Sum(b)
		for cut := range len(b) + 1 {
			ahead, behind := horner.Sum(b[:cut]), b[cut:]
			if got := horner.More(ahead, behind); got != want {
				t.Fatalf("% x cut at %d: More %d, want %d", b, cut, got, want)
			}
			got, err := horner.Join(ahead, horner.Sum(behind), len(behind))
			if err != nil || got != want {
				t.Fatalf("% x cut at %d: Join %d, %v, want %d", b, cut, got, err, want)
			}
		}
	}
}

// pieces cuts a text at places picked by rnd; some are empty.
func pieces(rnd *rand.Rand, b []byte) [][]byte {
	var l [][]byte
	for len(b) > 0 {
		cut := rnd.Intn(len(b) + 1)
		l, b = append(l, b[:cut]), b[cut:]
	}
	return l
}

// HN3: of a text cut into many pieces, gone over from its first to its last, or put together from either end, the sum is the same.
func TestCutInMany(t *testing.T) {
	rnd := rand.New(rand.NewSource(6))
	for range 300 {
		b := anyBytes(rnd, rnd.Intn(2000))
		want := horner.Sum(b)
		more, left, right := uint32(1), uint32(1), uint32(1)
		behind := 0
		l := pieces(rnd, b)
		for i, p := range l {
			more = horner.More(more, p)
			left, _ = horner.Join(left, horner.Sum(p), len(p))
			last := l[len(l)-1-i]
			right, _ = horner.Join(horner.Sum(last), right, behind)
			behind += len(last)
		}
		if more != want || left != want || right != want {
			t.Fatalf("%d bytes in %d pieces: %d, %d, %d, want %d", len(b), len(l), more, left, right, want)
		}
	}
}

// HN3: a long text has the same sum in pieces of any size.
func TestCutLong(t *testing.T) {
	b := anyBytes(rand.New(rand.NewSource(7)), api.MaxBlob)
	want := horner.Sum(b)
	for _, size := range []int{1, 2, 3, 63, 64, 65, 4096, 100003} {
		more, join := uint32(1), uint32(1)
		for p := range slices.Chunk(b, size) {
			more = horner.More(more, p)
			join, _ = horner.Join(join, horner.Sum(p), len(p))
		}
		if more != want || join != want {
			t.Errorf("pieces of %d: %d, %d, want %d", size, more, join, want)
		}
	}
}

// sumSet is a set of sums, a bit each, in pages that are made when they are needed.
type sumSet [1 << 16]*[1 << 10]uint64

// add puts a sum in, and tells whether it is new there.
func (s *sumSet) add(sum uint32) bool {
	page := &s[sum>>16]
	if *page == nil {
		*page = new([1 << 10]uint64)
	}
	word, bit := &(*page)[sum>>6&1023], uint64(1)<<(sum&63)
	isNew := *word&bit == 0
	*word |= bit
	return isNew
}

// HN3: no two of all texts of three bytes have one sum, whatever stands ahead of them.
func TestAllOfThreeUnlike(t *testing.T) {
	for _, ahead := range []string{"", "z\x89z\x7f", "some text"} {
		seen := new(sumSet)
		begin := horner.Sum([]byte(ahead))
		var b [3]byte
		for n := range 1 << 24 {
			b[0], b[1], b[2] = byte(n>>16), byte(n>>8), byte(n)
			if sum := horner.More(begin, b[:]); !seen.add(sum) {
				t.Fatalf("behind %q: % x has a sum that another one has: %d", ahead, b, sum)
			}
		}
	}
}

// near picks bytes that differ from three others little, or as much as they can: so that digits might make up for one another.
func near(rnd *rand.Rand, was []byte) []byte {
	other := slices.Clone(was)
	for i := range other {
		switch rnd.Intn(5) {
		case 0:
			other[i]++
		case 1:
			other[i]--
		case 2:
			other[i] = 255 - other[i]
		case 3:
			other[i] = byte(rnd.Intn(256))
		}
	}
	return other
}

// HN3: two long texts that differ only within three bytes that follow one another, wherever these stand, have unlike sums.
func TestThreeOthersUnlike(t *testing.T) {
	rnd := rand.New(rand.NewSource(8))
	for range 300 {
		b := anyBytes(rnd, 3+rnd.Intn(500))
		if rnd.Intn(2) == 0 {
			clear(b)
		}
		sum := horner.Sum(b)
		for at := range len(b) - 2 {
			other := slices.Clone(b)
			copy(other[at:], near(rnd, b[at:at+3]))
			if unlike := horner.Sum(other) != sum; unlike == slices.Equal(b, other) {
				t.Fatalf("% x, and at %d % x: unlike %v", b, at, other[at:at+3], unlike)
			}
		}
	}
}

// HN3: two texts alike but for the order of two of three bytes that follow one another have unlike sums, in whatever text.
func TestSwapsUnlike(t *testing.T) {
	rnd := rand.New(rand.NewSource(9))
	b := anyBytes(rnd, 3000)
	sum := horner.Sum(b)
	for i := range len(b) - 2 {
		for _, j := range []int{i + 1, i + 2} {
			b[i], b[j] = b[j], b[i]
			if same := horner.Sum(b) == sum; same != (b[i] == b[j]) {
				t.Fatalf("bytes %d and %d: the same sum: %v", i, j, same)
			}
			b[i], b[j] = b[j], b[i]
		}
	}
}
