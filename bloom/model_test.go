package bloom_test

import (
	"bytes"
	"errors"
	"math/big"
	"math/rand"
	"slices"
	"testing"

	"drydock/api"
	"drydock/bloom"
)

const (
	mostBits = 1 << 20
	mostAsks = 16
	modulus  = 1<<31 - 1
)

// sumOf is the remainder of the number whose digits are 1 and a key's bytes, told in whole numbers.
func sumOf(key string) *big.Int {
	n := big.NewInt(1)
	for _, c := range []byte(key) {
		n.Mul(n, big.NewInt(257))
		n.Add(n, big.NewInt(int64(c)))
	}
	return n.Mod(n, big.NewInt(modulus))
}

// modelBits are the bits that a key asks for, told without the program.
func modelBits(size, asks int, key string) []int {
	a, b := sumOf(key), sumOf("\x01"+key)
	var l []int
	for i := range asks {
		n := new(big.Int).Mul(b, big.NewInt(int64(i)))
		n.Add(n, a)
		l = append(l, int(n.Mod(n, big.NewInt(int64(size))).Int64()))
	}
	return l
}

// model is a filter, told without the program: the bits of one great number.
type model struct {
	size, asks int
	set        big.Int
}

// add lays a key in.
func (m *model) add(key string) {
	for _, n := range modelBits(m.size, m.asks, key) {
		m.set.SetBit(&m.set, n, 1)
	}
}

// may tells whether a key may be there.
func (m *model) may(key string) bool {
	return !slices.ContainsFunc(modelBits(m.size, m.asks, key), func(n int) bool { return m.set.Bit(n) == 0 })
}

// full is how many bits are set.
func (m *model) full() int {
	n := 0
	for i := range m.size {
		n += int(m.set.Bit(i))
	}
	return n
}

// encode is the model as bytes.
func (m *model) encode() []byte {
	set := m.set.FillBytes(make([]byte, need(m.size)))
	slices.Reverse(set) // the highest bits stand first in a great number
	return laid(m.size, m.asks, set)
}

// need is how many bytes so many bits need.
func need(bits int) int {
	n := bits / 8
	if n*8 < bits {
		n++
	}
	return n
}

// laid are bytes of a filter, or of what is none.
func laid(size, asks int, set []byte) []byte {
	return slices.Concat(number(size), number(asks), number(len(set)), set)
}

// number is a number below 2^21 as bytes.
func number(n int) []byte {
	switch {
	case n < 1<<7:
		return []byte{byte(n)}
	case n < 1<<14:
		return []byte{0x80 | byte(n>>8), byte(n)}
	}
	return []byte{0xc0 | byte(n>>16), byte(n >> 8), byte(n)}
}

// wantErr checks which number an error has; 0 is none.
func wantErr(t *testing.T, what string, err error, want api.Errno) {
	t.Helper()
	var got api.Errno
	if err != nil && !errors.As(err, &got) {
		t.Fatalf("%s: an error without a number: %v", what, err)
	}
	if got != want {
		t.Fatalf("%s: error %d, want %d", what, got, want)
	}
}

// filter is a new one, into which keys are laid.
func filter(t *testing.T, size, asks int, keys ...string) *bloom.Filter {
	t.Helper()
	f, err := bloom.New(size, asks)
	wantErr(t, "New", err, 0)
	for _, key := range keys {
		f.Add(key)
	}
	return f
}

// decoded is the filter of bytes.
func decoded(t *testing.T, b []byte) *bloom.Filter {
	t.Helper()
	f, err := bloom.Decode(b)
	if err != nil || f == nil {
		t.Fatalf("Decode of %d bytes, % x: %v, %v", len(b), b[:min(len(b), 50)], f, err)
	}
	return f
}

// wantBits checks the bits that a key asks for.
func wantBits(t *testing.T, f *bloom.Filter, key string, want ...int) {
	t.Helper()
	if got := f.Bits(key); !slices.Equal(got, want) {
		t.Fatalf("Bits(%q): %d, want %d", key, got, want)
	}
}

// wantMay checks whether a key may be there.
func wantMay(t *testing.T, f *bloom.Filter, key string, want bool) {
	t.Helper()
	if got := f.May(key); got != want {
		t.Fatalf("May(%q): %v, want %v", key, got, want)
	}
}

// wantFull checks how many bits are set.
func wantFull(t *testing.T, f *bloom.Filter, want int) {
	t.Helper()
	if got := f.Full(); got != want {
		t.Fatalf("Full: %d, want %d", got, want)
	}
}

// wantBytes checks a filter as bytes.
func wantBytes(t *testing.T, f *bloom.Filter, want []byte) {
	t.Helper()
	if got := f.Encode(); !bytes.Equal(got, want) {
		t.Fatalf("Encode: %d bytes, % x, want %d, % x", len(got), got[:min(len(got), 50)], len(want), want[:min(len(want), 50)])
	}
}

// wantAs checks that a filter answers as a model does, of these keys too.
func wantAs(t *testing.T, f *bloom.Filter, m *model, keys []string) {
	t.Helper()
	wantFull(t, f, m.full())
	wantBytes(t, f, m.encode())
	for _, key := range keys {
		wantBits(t, f, key, modelBits(m.size, m.asks, key)...)
		wantMay(t, f, key, m.may(key))
	}
}

// anyKey is picked by rnd: some are empty, some are long, and many are handed out more than once.
func anyKey(rnd *rand.Rand) string {
	var b []byte
	switch rnd.Intn(4) {
	case 0:
		b = make([]byte, rnd.Intn(2))
	case 1:
		b = make([]byte, 2)
	case 2:
		b = make([]byte, 32)
	case 3:
		b = make([]byte, rnd.Intn(300))
	}
	rnd.Read(b)
	return string(b)
}

// anyKeys are so many.
func anyKeys(rnd *rand.Rand, n int) []string {
	var l []string
	for range n {
		l = append(l, anyKey(rnd))
	}
	return l
}

// anySize is picked by rnd: few bits as often as many.
func anySize(rnd *rand.Rand) int { return 1 + rnd.Intn(1<<(1+rnd.Intn(13))) }

// sizes are those at the edges, and some between.
var sizes = []int{1, 2, 7, 8, 9, 10, 15, 16, 17, 63, 64, 65, 100, 1000, 1015, 1016, 1017, 1024, 16383, 999983, mostBits - 1, mostBits}
