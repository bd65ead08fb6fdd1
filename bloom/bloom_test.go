package bloom_test

import (
	"math"
	"math/rand"
	"slices"
	"strings"
	"testing"

	"drydock/api"
	"drydock/bloom"
)

// The calls as the chapter lists them.
var (
	_ func(bits, asks int) (*bloom.Filter, error) = bloom.New
	_ func(*bloom.Filter, string)                 = (*bloom.Filter).Add
	_ func(*bloom.Filter, string) bool            = (*bloom.Filter).May
	_ func(*bloom.Filter, string) []int           = (*bloom.Filter).Bits
	_ func(*bloom.Filter) int                     = (*bloom.Filter).Full
	_ func(*bloom.Filter) []byte                  = (*bloom.Filter).Encode
	_ func(b []byte) (*bloom.Filter, error)       = bloom.Decode
)

// print32 is a key of as many bytes as a fingerprint has.
const print32 = "fingerprint of a block, 32 bytes"

// asked are bits of keys that are known, i = 0 first: some keys ask for one bit more than once.
var asked = []struct {
	size, asks int
	key        string
	want       []int
}{
	{1, 1, "", []int{0}},
	{1, 1, "a", []int{0}},
	{1, 3, "abc", []int{0, 0, 0}},
	{8, 1, "", []int{1}},
	{8, 1, "\x00", []int{1}},
	{8, 1, "\x01", []int{2}},
	{8, 1, "\xff", []int{0}},
	{8, 1, "a", []int{2}},
	{8, 1, "abc", []int{7}},
	{8, 3, "a", []int{2, 5, 0}},
	{8, 3, "b", []int{3, 7, 3}},
	{8, 3, "abc", []int{7, 1, 3}},
	{9, 4, "", []int{1, 7, 4, 1}},
	{9, 4, "\x00", []int{5, 8, 2, 5}},
	{9, 4, "a", []int{3, 4, 5, 6}},
	{9, 4, "b", []int{4, 6, 8, 1}},
	{9, 4, "ab", []int{5, 0, 4, 8}},
	{9, 4, "ba", []int{0, 8, 7, 6}},
	{9, 4, "abc", []int{7, 7, 7, 7}},
	{10, 16, "", []int{1, 9, 7, 5, 3, 1, 9, 7, 5, 3, 1, 9, 7, 5, 3, 1}},
	{10, 16, "\xff", []int{2, 3, 4, 5, 6, 7, 8, 9, 0, 1, 2, 3, 4, 5, 6, 7}},
	{10, 16, "ab", []int{6, 5, 4, 3, 2, 1, 0, 9, 8, 7, 6, 5, 4, 3, 2, 1}},
	{100, 5, "z\x89z\x7f", []int{0, 23, 46, 69, 92}}, // its sum is 0
	{1000, 16, "a", []int{354, 757, 160, 563, 966, 369, 772, 175, 578, 981, 384, 787, 190, 593, 996, 399}},
	{1000, 16, "abc", []int{631, 369, 107, 845, 583, 321, 59, 797, 535, 273, 11, 749, 487, 225, 963, 701}},
	{999983, 16, "ab", []int{91076, 157034, 222992, 288950, 354908, 420866, 486824, 552782, 618740, 684698, 750656, 816614, 882572, 948530, 14505, 80463}},
	{999983, 16, strings.Repeat("\x00", 32), []int{58201, 707645, 357106, 6567, 656011, 305472, 954916, 604377, 253838, 903282, 552743, 202204, 851648, 501109, 150570, 800014}},
	{mostBits - 1, 7, "ba", []int{91332, 380057, 668782, 957507, 197657, 486382, 775107}},
	{mostBits, 16, "abc", []int{337959, 21585, 753787, 437413, 121039, 853241, 536867, 220493, 952695, 636321, 319947, 3573, 735775, 419401, 103027, 835229}},
}

// BO1: bits that are known: of 1 bit, of 8 and 9, of as many as can be; of 1 ask and 16; of an empty key, of keys of one byte and of many.
func TestBits(t *testing.T) {
	for _, c := range asked {
		f := filter(t, c.size, c.asks)
		wantBits(t, f, c.key, c.want...)
		f.Add(c.key)
		f.Add("another one")
		wantBits(t, f, c.key, c.want...) // it hangs on the key alone
	}
}

// BO1: a and i b are reckoned as whole numbers, whatever the sums are: 0, the greatest one, and all between.
func TestBitsOfSums(t *testing.T) {
	for _, key := range []string{
		"z\x89z\x7f", "\xf9\x0b\xf8\xff", // a is 0
		"z\x89z~", "\xf9\x0b\xf8\xfe", // a is the greatest sum
		"p\x9di{", "\xef\x1f\xe7\xfb", // b is 0: all bits are one
		"p\x9diz", "\xef\x1f\xe7\xfa", // b is the greatest sum, so that 15 b is above 32 bits
		print32, strings.Repeat("\x00", 300), strings.Repeat("\xff", 4000),
	} {
		for _, size := range sizes {
			for _, asks := range []int{1, 2, 3, mostAsks} {
				wantBits(t, filter(t, size, asks), key, modelBits(size, asks, key)...)
			}
		}
	}
	f := filter(t, 999983, 3)
	wantBits(t, f, "p\x9di{", 1979054324%999983, 1979054324%999983, 1979054324%999983)
}

// BO1: the bits of any key are as the model says, as many as are asked, and the first of them do not hang on how many that is.
func TestBitsOfAny(t *testing.T) {
	rnd := rand.New(rand.NewSource(1))
	for range 2000 {
		size, key := anySize(rnd), anyKey(rnd)
		want := modelBits(size, mostAsks, key)
		for asks := 1; asks <= mostAsks; asks++ {
			wantBits(t, filter(t, size, asks), key, want[:asks]...)
		}
	}
}

// BO1: New takes 1 to 2^20 bits, and 1 to 16 asks, and no others; a new filter has no bit set.
func TestNew(t *testing.T) {
	below := []int{0, -1, -2, -8, -mostBits, math.MinInt32, math.MinInt}
	above := []int{1, 2, 15, 16, 1 << 20, 1 << 31, 1 << 32, 1<<32 + 1}
	wrongBits, wrongAsks := append(below, math.MaxInt), append(below, math.MaxInt)
	for _, more := range above {
		wrongBits, wrongAsks = append(wrongBits, mostBits+more), append(wrongAsks, mostAsks+more)
	}
	for _, asks := range []int{1, 2, 15, mostAsks} {
		for _, size := range sizes {
			f := filter(t, size, asks)
			wantFull(t, f, 0)
			wantMay(t, f, "", false)
			wantMay(t, f, "a", false)
		}
		for _, size := range wrongBits {
			wantNoNew(t, size, asks)
		}
	}
	for _, asks := range wrongAsks {
		for _, size := range slices.Concat(sizes, wrongBits) {
			wantNoNew(t, size, asks)
		}
	}
}

// wantNoNew checks that there is no such filter.
func wantNoNew(t *testing.T, size, asks int) {
	t.Helper()
	f, err := bloom.New(size, asks)
	if wantErr(t, "New", err, api.ErrArg); f != nil {
		t.Fatalf("New(%d, %d): a filter beside an error", size, asks)
	}
}

// BO1: the example: one bit of eight is set, and keys that ask for it may be there, others not.
func TestAdd(t *testing.T) {
	f := filter(t, 8, 1)
	wantMay(t, f, "a", false)
	f.Add("a")
	wantFull(t, f, 1)
	wantMay(t, f, "a", true)
	wantMay(t, f, "\x01", true) // it asks for 2, too
	for _, key := range []string{"", "\x00", "\xff", "b", "ab", "abc"} {
		wantMay(t, f, key, false)
	}
	f.Add("b")
	wantFull(t, f, 2)
	wantMay(t, f, "b", true)
	f.Add("\x01")
	wantFull(t, f, 2)
}

// BO1: all of a key's bits are set, each once though it is asked for twice, and no others.
func TestAddSetsItsBits(t *testing.T) {
	for _, c := range asked {
		f := filter(t, c.size, c.asks, c.key)
		own := slices.Clone(c.want)
		slices.Sort(own)
		own = slices.Compact(own)
		wantFull(t, f, len(own))
		wantMay(t, f, c.key, true)
		m := &model{size: c.size, asks: c.asks}
		for _, n := range own {
			m.set.SetBit(&m.set, n, 1)
		}
		wantBytes(t, f, m.encode())
		f.Add(c.key) // once more: nothing is new
		wantFull(t, f, len(own))
		wantBytes(t, f, m.encode())
	}
}

// BO1: a key may be there if all its bits are set, by whichever keys, and not if one of them is not, whichever that is.
func TestMayAsksAll(t *testing.T) {
	rnd := rand.New(rand.NewSource(2))
	for range 500 {
		asks := 1 + rnd.Intn(mostAsks)
		size, key := anySize(rnd), anyKey(rnd)
		own := modelBits(size, asks, key)
		set := make([]byte, need(size))
		for _, n := range own {
			set[n/8] |= 1 << (n % 8)
		}
		wantMay(t, decoded(t, laid(size, asks, set)), key, true)
		for _, n := range own {
			less := slices.Clone(set)
			less[n/8] &^= 1 << (n % 8)
			f := decoded(t, laid(size, asks, less))
			wantMay(t, f, key, false)
			f.Add(key)
			wantMay(t, f, key, true)
			wantBytes(t, f, laid(size, asks, set))
		}
	}
}

// BO1: how many are set, of nothing, of one key, of all bits; a bit is set for good.
func TestFull(t *testing.T) {
	for _, size := range sizes {
		f := filter(t, size, 1)
		wantFull(t, f, 0)
		f.Add("a")
		wantFull(t, f, 1)
		all := filled(size, 1)
		f = decoded(t, all)
		wantFull(t, f, size)
		for _, key := range []string{"", "a", "abc", print32} {
			wantMay(t, f, key, true)
			f.Add(key)
		}
		wantFull(t, f, size)
		wantBytes(t, f, all)
	}
	f := filter(t, 10, 16, "\xff")
	wantFull(t, f, 10)
	wantBytes(t, f, filled(10, 16))
}

// filled are the bytes of a filter of which all bits are set.
func filled(size, asks int) []byte {
	m := &model{size: size, asks: asks}
	for n := range size {
		m.set.SetBit(&m.set, n, 1)
	}
	return m.encode()
}

// BO1: filters of any size, of which any keys are asked and added, answer as the model does.
func TestFilterOfAny(t *testing.T) {
	rnd := rand.New(rand.NewSource(3))
	for range 300 {
		m := &model{size: anySize(rnd), asks: 1 + rnd.Intn(mostAsks)}
		f := filter(t, m.size, m.asks)
		for range rnd.Intn(12) {
			key := anyKey(rnd)
			wantMay(t, f, key, m.may(key))
			f.Add(key)
			m.add(key)
			wantAs(t, f, m, append(anyKeys(rnd, 5), key))
		}
	}
}

// BO1: a filter of as many bits as can be, of one ask and of 16, answers as the model does.
func TestFilterOfMost(t *testing.T) {
	rnd := rand.New(rand.NewSource(4))
	for _, size := range []int{mostBits - 1, mostBits} {
		for _, asks := range []int{1, mostAsks} {
			m := &model{size: size, asks: asks}
			f := filter(t, size, asks)
			for _, key := range anyKeys(rnd, 2000) {
				f.Add(key)
				m.add(key)
			}
			wantAs(t, f, m, anyKeys(rnd, 500))
		}
	}
}
