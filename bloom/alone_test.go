package bloom_test

import (
	"bytes"
	"math"
	"math/rand"
	"slices"
	"strings"
	"sync"
	"testing"

	"drydock/api"
	"drydock/bloom"
)

// use makes every call of a filter, with a key.
func use(f *bloom.Filter, key string) {
	f.May(key)
	f.Bits(key)
	f.Add(key)
	f.Full()
	f.Encode()
}

// P6: every call ends and none panics, whatever it is given.
func TestTotal(t *testing.T) {
	keys := []string{"", "\x00", "\x01", "\xff\xfe", print32, strings.Repeat("\xff", api.MaxBlob+1)}
	numbers := []int{math.MinInt, math.MinInt32, -1, 0, 1, 2, 7, 8, 9, 16, 17, 255, mostBits, mostBits + 1, math.MaxInt32, 1 << 32, math.MaxInt - 7, math.MaxInt}
	filters := []*bloom.Filter{nil}
	for _, size := range numbers {
		for _, asks := range numbers {
			if f, err := bloom.New(size, asks); err == nil {
				filters = append(filters, f)
			}
		}
	}
	for _, b := range [][]byte{nil, {}, {0}, {8, 1, 1, 255}, bytes.Repeat([]byte{0}, 200), bytes.Repeat([]byte{1}, 4), bytes.Repeat([]byte{255}, api.MaxBlob), filled(mostBits, 16)} {
		if f, err := bloom.Decode(b); err == nil {
			filters = append(filters, f)
		}
	}
	for _, f := range filters {
		for _, key := range keys[:len(keys)-1] {
			use(f, key)
		}
	}
	use(filters[len(filters)-1], keys[len(keys)-1])
}

// P6: of bytes of no meaning each call ends, and a filter that comes of them can be used.
func TestTotalOfAnyBytes(t *testing.T) {
	rnd := rand.New(rand.NewSource(12))
	for range 50000 {
		b := make([]byte, rnd.Intn(12))
		few := []int{3, 18, 256}[rnd.Intn(3)]
		for i := range b {
			b[i] = byte(rnd.Intn(few))
		}
		f, err := bloom.Decode(b)
		if err != nil {
			wantNone(t, b)
			continue
		}
		wantBytes(t, f, b)
		use(f, anyKey(rnd))
	}
}

// P6: the same call answers the same, whatever other filters were asked between.
func TestSameAgain(t *testing.T) {
	rnd := rand.New(rand.NewSource(13))
	for range 200 {
		size, asks, keys := anySize(rnd), 1+rnd.Intn(mostAsks), anyKeys(rnd, rnd.Intn(9))
		f, key := filter(t, size, asks, keys...), anyKey(rnd)
		l, may, full, b := f.Bits(key), f.May(key), f.Full(), f.Encode()
		for range 4 {
			use(filter(t, anySize(rnd), 1+rnd.Intn(mostAsks), anyKeys(rnd, 3)...), anyKey(rnd))
			use(decoded(t, b), anyKey(rnd))
			wantBits(t, f, key, l...)
			wantMay(t, f, key, may)
			wantFull(t, f, full)
			wantBytes(t, f, b)
			wantBytes(t, filter(t, size, asks, keys...), b)
		}
	}
}

// fill writes over bytes and the room behind them.
func fill(b []byte) {
	b = b[:cap(b)]
	for i := range b {
		b[i] ^= 0xff
	}
}

// P6: bytes that were handed in read afterwards as they did, what is ahead and the room behind too, and are not kept.
func TestBytesAlone(t *testing.T) {
	rnd := rand.New(rand.NewSource(14))
	for range 500 {
		want := filter(t, anySize(rnd), 1+rnd.Intn(mostAsks), anyKeys(rnd, rnd.Intn(9))...).Encode()
		all := slices.Concat([]byte("ahead"), want, []byte(anyKey(rnd)))
		before := slices.Clone(all)
		f := decoded(t, all[5:5+len(want)])
		wantNone(t, all[5:5+len(want)-1])
		use(decoded(t, all[5:5+len(want)]), anyKey(rnd))
		if !bytes.Equal(all, before) {
			t.Fatalf("changed to % x, was % x", all, before)
		}
		fill(all)
		wantBytes(t, f, want)
		f.Add(anyKey(rnd))
		fill(all)
		if !bytes.Equal(all, before) {
			t.Fatalf("a filter writes into what it came of: % x, was % x", all, before)
		}
	}
}

// P6: no answer is another one's memory, or a filter's, spare room too.
func TestAnswersAlone(t *testing.T) {
	rnd := rand.New(rand.NewSource(15))
	for range 500 {
		size, asks, key := anySize(rnd), 1+rnd.Intn(mostAsks), anyKey(rnd)
		f := filter(t, size, asks, anyKeys(rnd, rnd.Intn(9))...)
		want := slices.Clone(f.Encode())
		b, other := f.Encode(), f.Encode()
		fill(b)
		if !bytes.Equal(other, want) {
			t.Fatalf("Encode's answers share memory: % x, was % x", other, want)
		}
		wantBytes(t, f, want)
		l, again := f.Bits(key), f.Bits(key)
		clear(l[:cap(l)])
		_ = append(l, 77)
		if !slices.Equal(again, modelBits(size, asks, key)) {
			t.Fatalf("Bits' answers share memory: %d", again)
		}
		wantBits(t, f, key, again...)
		told := f.Encode()
		f.Add(key)
		if !bytes.Equal(told, want) {
			t.Fatalf("what was answered changed to % x, was % x", told, want)
		}
	}
}

// P6: filters have nothing to do with one another: neither new ones, nor those of one text of bytes.
func TestFiltersAlone(t *testing.T) {
	rnd := rand.New(rand.NewSource(16))
	for range 200 {
		size, asks := anySize(rnd), 1+rnd.Intn(mostAsks)
		one, two := filter(t, size, asks), filter(t, size, asks)
		one.Add(anyKey(rnd))
		wantFull(t, two, 0)
		b := one.Encode()
		three, four := decoded(t, b), decoded(t, b)
		for _, key := range anyKeys(rnd, 5) {
			three.Add(key)
		}
		wantBytes(t, one, b)
		wantBytes(t, four, b)
		wantFull(t, two, 0)
	}
}

// P6: filters that are used at the same time have nothing to do with one another, and one that is only asked can be asked by many.
func TestAtTheSameTime(t *testing.T) {
	shared := filter(t, 1000, 5, "a", "b")
	b := shared.Encode()
	var all sync.WaitGroup
	for i := range 8 {
		all.Add(1)
		go func() {
			defer all.Done()
			rnd := rand.New(rand.NewSource(int64(i)))
			for range 200 {
				size, key := anySize(rnd), anyKey(rnd)
				f, err := bloom.New(size, 3)
				if err != nil {
					t.Errorf("New(%d, 3): %v", size, err)
					return
				}
				f.Add(key)
				if !f.May(key) || !slices.Equal(f.Bits(key), modelBits(size, 3, key)) {
					t.Errorf("%q in %d bits: %v, %d", key, size, f.May(key), f.Bits(key))
				}
				other, err := bloom.Decode(b)
				if err != nil || !bytes.Equal(other.Encode(), shared.Encode()) || !shared.May("a") || shared.Full() != 10 {
					t.Errorf("%v, % x, % x", err, other.Encode(), shared.Encode())
				}
			}
		}()
	}
	all.Wait()
}
