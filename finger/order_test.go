package finger_test

import (
	"cmp"
	"fmt"
	"math/rand"
	"slices"
	"strings"
	"testing"

	"drydock/api"
	"drydock/finger"
	"drydock/horner"
)

// wantOrder checks which of two fingerprints is less, -1: the first, 1: the second, 0: neither; and that keys and texts are in the same order.
func wantOrder(t *testing.T, p, q api.Print, want int) {
	t.Helper()
	if finger.Less(p, q) != (want < 0) || finger.Less(q, p) != (want > 0) {
		t.Fatalf("%x and %x: Less %v, and the other way %v, want %d", p, q, finger.Less(p, q), finger.Less(q, p), want)
	}
	if got := strings.Compare(finger.Key(p), finger.Key(q)); got != want {
		t.Fatalf("%x and %x: their keys' order is %d, want %d", p, q, got, want)
	}
	if got := strings.Compare(finger.Text(p), finger.Text(q)); got != want {
		t.Fatalf("%x and %x: their texts' order is %d, want %d", p, q, got, want)
	}
}

// anyPrint is picked by rnd.
func anyPrint(rnd *rand.Rand) api.Print {
	var p api.Print
	rnd.Read(p[:])
	return p
}

// order is that of two fingerprints, byte by byte, as whole numbers are: none of them below 0.
func order(p, q api.Print) int {
	for i := range p {
		if d := int(p[i]) - int(q[i]); d != 0 {
			return d / max(d, -d)
		}
	}
	return 0
}

// FI1, FI2: which of two is less, where they differ in the first byte, in the last one, in both, or nowhere; a byte above 127 is greater than those below.
func TestLess(t *testing.T) {
	for _, c := range []struct {
		p, q api.Print
		want int
	}{
		{api.Print{}, api.Print{}, 0},
		{api.Print{}, api.Print{0: 1}, -1},
		{api.Print{}, api.Print{31: 1}, -1},
		{api.Print{31: 1}, api.Print{0: 1}, -1},
		{api.Print{31: 255}, api.Print{0: 1}, -1},
		{api.Print{0: 1, 31: 255}, api.Print{0: 2}, -1},
		{api.Print{0: 1, 1: 255}, api.Print{0: 2}, -1},
		{api.Print{0: 127}, api.Print{0: 128}, -1},
		{api.Print{0: 0}, api.Print{0: 255}, -1},
		{api.Print{31: 127}, api.Print{31: 128}, -1},
		{api.Print{31: 1}, api.Print{31: 255}, -1},
		{api.Print{0: 255, 31: 1}, api.Print{0: 255, 31: 200}, -1},
		{api.Print{0: 255, 31: 255}, api.Print{0: 255, 31: 255}, 0},
		{api.Print{7: 8}, api.Print{8: 9}, 1},
	} {
		wantOrder(t, c.p, c.q, c.want)
	}
}

// FI1, FI2: all pairs of bytes, at each place, with the same bytes ahead, and behind with ones that would tell the other order.
func TestLessAtEachPlace(t *testing.T) {
	rnd := rand.New(rand.NewSource(3))
	for at := range printSize {
		p := anyPrint(rnd)
		q := p
		for i := at + 1; i < printSize; i++ {
			p[i], q[i] = 255, 0
		}
		for a := range 256 {
			for b := range 256 {
				if p[at], q[at] = byte(a), byte(b); a < b {
					wantOrder(t, p, q, -1)
				}
			}
		}
	}
}

// FI1, FI2: any two, those that have many bytes in common too, are in the order of their bytes; none is less than itself.
func TestLessOfAny(t *testing.T) {
	rnd := rand.New(rand.NewSource(4))
	for range 10000 {
		p, other := anyPrint(rnd), anyPrint(rnd)
		near := p
		for range rnd.Intn(4) {
			near[rnd.Intn(printSize)] = byte(rnd.Intn(256))
		}
		wantOrder(t, p, p, 0)
		wantOrder(t, p, near, order(p, near))
		wantOrder(t, p, other, order(p, other))
	}
}

// FI2: blocks whose fingerprints stand in order have their keys in order, of each kind; those of First are in the order of the first bytes.
func TestKeysInOrder(t *testing.T) {
	rnd := rand.New(rand.NewSource(5))
	for _, kind := range kinds {
		var prints []api.Print
		var keys []string
		for range 1000 {
			p := of(t, kind, anyBlock(rnd))
			prints = append(prints, p)
			keys = append(keys, finger.Key(p))
		}
		slices.SortFunc(prints, order)
		slices.Sort(keys)
		for i, p := range prints {
			if keys[i] != finger.Key(p) {
				t.Fatalf("kind %d: the key %d in order is %x, want that of %x", kind, i, keys[i], p)
			}
		}
	}
	for a := range 256 {
		for b := range 256 {
			wantOrder(t, of(t, finger.First, api.Block{byte(a)}), of(t, finger.First, api.Block{byte(b)}), cmp.Compare(a, b))
		}
	}
}

// FI1, FI2: fingerprints of the kind Weak, and their keys, are in the order of the sums, since a sum's highest byte stands first.
func TestWeakInOrderOfSums(t *testing.T) {
	rnd := rand.New(rand.NewSource(8))
	for range 3000 {
		b, other := anyBlock(rnd), anyBlock(rnd)
		want := cmp.Compare(horner.Sum(b[:]), horner.Sum(other[:]))
		wantOrder(t, of(t, finger.Weak, b), of(t, finger.Weak, other), want)
	}
}

// FI2: the same block has the same fingerprint of each kind, wherever it stands and whatever was asked between.
func TestSameBlockSamePrint(t *testing.T) {
	rnd := rand.New(rand.NewSource(6))
	for range 500 {
		b := anyBlock(rnd)
		again := api.Block(slices.Clone(b[:]))
		var before []api.Print
		for _, kind := range kinds {
			before = append(before, of(t, kind, b))
		}
		of(t, rnd.Intn(len(kinds)), anyBlock(rnd))
		finger.Of(4, b)
		for _, kind := range kinds {
			if got := of(t, kind, again); got != before[kind] {
				t.Fatalf("Of(%d, % x): %x, was %x", kind, b, got, before[kind])
			}
		}
	}
}

// FI1, FI2: blocks that differ in one byte, the first, the last or another one, have unlike fingerprints of the kinds Strong and Weak; of First, where it is the first; never of Same.
func TestOtherBlocks(t *testing.T) {
	rnd := rand.New(rand.NewSource(7))
	for _, b := range []api.Block{{}, row(255, 0), row(0, 1), anyBlock(rnd)} {
		for at := range b {
			for _, by := range []byte{1, 2, 127, 128, 255} {
				other := b
				other[at] += by
				for _, kind := range kinds {
					unlike := kind == finger.Strong || kind == finger.Weak || kind == finger.First && at == 0
					if got := of(t, kind, b) != of(t, kind, other); got != unlike {
						t.Errorf("kind %d, % x, byte %d and %d: unlike %v", kind, b, at, by, got)
					}
				}
			}
		}
	}
}

// FI1: what is poor is so: unlike blocks that the kinds Weak, First and Same don't tell apart, as they have one sum; Strong does.
func TestPoor(t *testing.T) {
	for _, c := range []struct {
		p, q api.Block
		weak uint32
	}{
		{api.Block{}, full("\x01\x00\x74\x97\x6d\x7c"), 0x0af0b993},
		{full("\x73\xb3\x85\xc1"), full("\x01\x00\x69\xc7\x74\xbd"), 0},
		{full("\x73\xb3\x85\xc2"), full("\x01\x00\x69\xc7\x74\xbe"), 1},
	} {
		for _, kind := range kinds {
			p, q := of(t, kind, c.p), of(t, kind, c.q)
			if same := p == q; same != (kind != finger.Strong) {
				t.Errorf("kind %d: % x and % x have one fingerprint: %v", kind, c.p, c.q, same)
			}
		}
		if got, want := hex(of(t, finger.Weak, c.q)), fmt.Sprintf("%08x%056x", c.weak, 0); got != want {
			t.Errorf("Of(Weak, % x): %s, want %s", c.q, got, want)
		}
	}
}
