package bloom_test

import (
	"math/rand"
	"slices"
	"testing"

	"drydock/bloom"
)

// wantAll checks that all keys may be there.
func wantAll(t *testing.T, f *bloom.Filter, keys []string) {
	t.Helper()
	for _, key := range keys {
		wantMay(t, f, key, true)
	}
}

// BO3: what was added may be there, whatever else is added, asked and told.
func TestAlwaysMay(t *testing.T) {
	rnd := rand.New(rand.NewSource(7))
	for range 300 {
		f := filter(t, anySize(rnd), 1+rnd.Intn(mostAsks))
		var keys []string
		full := 0
		for range rnd.Intn(40) {
			key := anyKey(rnd)
			f.Add(key)
			keys = append(keys, key)
			wantAll(t, f, keys)
			f.Bits(anyKey(rnd))
			f.May(anyKey(rnd))
			f.Encode()
			if n := f.Full(); n < full {
				t.Fatalf("Full: %d, was %d", n, full)
			}
			full = f.Full()
		}
	}
}

// BO3: so it may behind the filter's bytes, and when more is added there.
func TestAlwaysMayBehindBytes(t *testing.T) {
	rnd := rand.New(rand.NewSource(8))
	for range 200 {
		f := filter(t, anySize(rnd), 1+rnd.Intn(mostAsks))
		var keys []string
		for range rnd.Intn(15) {
			some := anyKeys(rnd, rnd.Intn(4))
			for _, key := range some {
				f.Add(key)
			}
			keys = append(keys, some...)
			f = decoded(t, f.Encode())
			wantAll(t, f, keys)
		}
	}
}

// BO3: so it may in filters of each size at the edges, and of each number of asks, all keys of one byte.
func TestAlwaysMayOfEach(t *testing.T) {
	keys := []string{""}
	for c := range 256 {
		keys = append(keys, string([]byte{byte(c)}))
	}
	for _, size := range sizes {
		for asks := 1; asks <= mostAsks; asks++ {
			f := filter(t, size, asks, keys...)
			wantAll(t, f, keys)
			wantAll(t, decoded(t, f.Encode()), keys)
		}
	}
}

// BO3: in which order keys are added, and how often, changes nothing.
func TestAnyOrder(t *testing.T) {
	rnd := rand.New(rand.NewSource(9))
	for range 300 {
		size, asks, keys := anySize(rnd), 1+rnd.Intn(mostAsks), anyKeys(rnd, rnd.Intn(20))
		want := filter(t, size, asks, keys...).Encode()
		for range 3 {
			rnd.Shuffle(len(keys), func(i, j int) { keys[i], keys[j] = keys[j], keys[i] })
			wantBytes(t, filter(t, size, asks, keys...), want)
			again := slices.Concat(keys, keys[:rnd.Intn(len(keys)+1)])
			wantBytes(t, filter(t, size, asks, again...), want)
		}
		slices.Sort(keys)
		wantBytes(t, filter(t, size, asks, keys...), want)
	}
}

// BO3: a filter of the keys of two has the bits of both, and no others.
func TestBoth(t *testing.T) {
	rnd := rand.New(rand.NewSource(10))
	for range 300 {
		size, asks := anySize(rnd), 1+rnd.Intn(mostAsks)
		one, two := anyKeys(rnd, rnd.Intn(9)), anyKeys(rnd, rnd.Intn(9))
		want := filter(t, size, asks, one...).Encode()
		for i, c := range filter(t, size, asks, two...).Encode()[len(want)-need(size):] {
			want[len(want)-need(size)+i] |= c
		}
		wantBytes(t, filter(t, size, asks, append(one, two...)...), want)
	}
}
