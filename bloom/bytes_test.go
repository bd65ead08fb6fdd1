package bloom_test

import (
	"math/rand"
	"slices"
	"strings"
	"testing"

	"drydock/api"
	"drydock/bloom"
)

// wantNone checks that bytes are no filter's.
func wantNone(t *testing.T, b []byte) {
	t.Helper()
	f, err := bloom.Decode(b)
	if f != nil {
		t.Fatalf("Decode of %d bytes, % x: a filter", len(b), b[:min(len(b), 50)])
	}
	wantErr(t, "Decode", err, api.ErrForm)
}

// encoded are filters' bytes that are known.
var encoded = []struct {
	size, asks int
	keys       []string
	want       string
}{
	{1, 1, nil, "\x01\x01\x01\x00"},
	{1, 1, []string{""}, "\x01\x01\x01\x01"},
	{1, 16, []string{"a"}, "\x01\x10\x01\x01"},
	{8, 1, nil, "\x08\x01\x01\x00"},
	{8, 1, []string{""}, "\x08\x01\x01\x02"},
	{8, 1, []string{"a"}, "\x08\x01\x01\x04"},
	{8, 1, []string{"abc"}, "\x08\x01\x01\x80"},
	{8, 1, []string{"\xff"}, "\x08\x01\x01\x01"},
	{8, 1, []string{"", "a", "abc", "a"}, "\x08\x01\x01\x86"},
	{8, 3, []string{"a"}, "\x08\x03\x01\x25"},
	{9, 4, nil, "\x09\x04\x02\x00\x00"},
	{9, 4, []string{"a"}, "\x09\x04\x02\x78\x00"},
	{9, 4, []string{"b"}, "\x09\x04\x02\x52\x01"},
	{9, 4, []string{"a", "ab"}, "\x09\x04\x02\x79\x01"},
	{10, 16, []string{""}, "\x0a\x10\x02\xaa\x02"},
	{10, 16, []string{"ab"}, "\x0a\x10\x02\xff\x03"},
	{64, 1, []string{"a"}, "\x40\x01\x08\x00\x00\x00\x00\x04\x00\x00\x00"},                                        // 34
	{65, 1, []string{"a", "\x00"}, "\x41\x01\x09\x00\x00\x00\x20\x00\x00\x00\x40\x00"},                            // 29, 62
	{127, 1, []string{"a"}, "\x7f\x01\x10" + strings.Repeat("\x00", 12) + "\x10" + strings.Repeat("\x00", 3)},     // 100
	{128, 1, []string{"a"}, "\x80\x80\x01\x10" + strings.Repeat("\x00", 12) + "\x04" + strings.Repeat("\x00", 3)}, // 98
	{1017, 1, []string{""}, "\x83\xf9\x01\x80\x80\x02" + strings.Repeat("\x00", 127)},
	{mostBits, 1, []string{""}, "\xd0\x00\x00\x01\xc2\x00\x00\x02" + strings.Repeat("\x00", 1<<17-1)},
	{mostBits - 1, 2, []string{""}, "\xcf\xff\xff\x02\xc2\x00\x00\x02" + strings.Repeat("\x00", 31) + "\x08" + strings.Repeat("\x00", 1<<17-33)}, // 1, 259
}

// BO2: how many bits, how many are asked, and the bits, the lowest of the first byte first.
func TestEncode(t *testing.T) {
	for _, c := range encoded {
		f := filter(t, c.size, c.asks, c.keys...)
		wantBytes(t, f, []byte(c.want))
		wantBytes(t, f, []byte(c.want)) // asking changes nothing
	}
}

// BO2: what is told so is decoded, and then it answers as the one that was encoded.
func TestDecode(t *testing.T) {
	for _, c := range encoded {
		f, m := decoded(t, []byte(c.want)), &model{size: c.size, asks: c.asks}
		for _, key := range c.keys {
			m.add(key)
		}
		wantAs(t, f, m, append([]string{"", "a", "b", "ab", "abc", "\x00", print32}, c.keys...))
	}
}

// BO2: the bit n is that of 2^(n rest by 8) in the byte n / 8.
func TestBitsInBytes(t *testing.T) {
	for _, size := range []int{1, 7, 8, 9, 16, 17, 100} {
		for n := range size {
			set := make([]byte, need(size))
			set[n/8] = []byte{1, 2, 4, 8, 16, 32, 64, 128}[n%8]
			f := decoded(t, laid(size, 1, set))
			wantFull(t, f, 1)
			for c := range 256 {
				key := string([]byte{byte(c)})
				wantMay(t, f, key, modelBits(size, 1, key)[0] == n)
			}
		}
	}
}

// BO2: any filter's bytes are decoded to one that answers as it does, and is encoded as the same bytes; so does it go on.
func TestThereAndBack(t *testing.T) {
	rnd := rand.New(rand.NewSource(5))
	for range 300 {
		m := &model{size: anySize(rnd), asks: 1 + rnd.Intn(mostAsks)}
		f := filter(t, m.size, m.asks)
		for range rnd.Intn(10) {
			key := anyKey(rnd)
			f.Add(key)
			m.add(key)
			f = decoded(t, f.Encode())
			wantAs(t, f, m, append(anyKeys(rnd, 5), key))
		}
		again := decoded(t, f.Encode())
		again.Add("only there")
		wantAs(t, f, m, nil) // the one that was encoded does not
	}
}

// BO2: any bits are a filter's, and the same bytes come of them; with one bit behind the last they are none.
func TestDecodeAnyBits(t *testing.T) {
	rnd := rand.New(rand.NewSource(6))
	for range 3000 {
		m := &model{size: anySize(rnd), asks: 1 + rnd.Intn(mostAsks)}
		for n := range m.size {
			m.set.SetBit(&m.set, n, uint(rnd.Intn(2)))
		}
		b := m.encode()
		f := decoded(t, b)
		wantFull(t, f, m.full())
		wantBytes(t, f, b)
	}
}

// BO2: a bit behind the last that is set, whichever, is wrong; of bits that 8 divides there is none.
func TestBitsBehind(t *testing.T) {
	for _, size := range append([]int{3, 4, 5, 6, 11, 12, 13, 14}, sizes...) {
		for _, full := range []bool{false, true} {
			b := laid(size, 1, make([]byte, need(size)))
			if full {
				b = filled(size, 1)
			}
			decoded(t, b)
			for n := size; n < need(size)*8; n++ {
				wrong := slices.Clone(b)
				wrong[len(wrong)-1] |= 1 << (n % 8)
				wantNone(t, wrong)
			}
			if size%8 == 0 {
				b[len(b)-1] |= 1 << 7
				decoded(t, b)
			}
		}
	}
}

// BO2: bytes of bits that are fewer than needed, or more, are wrong, though all are noughts.
func TestBytesOfBits(t *testing.T) {
	for _, size := range sizes {
		for _, n := range []int{0, 1, 2, need(size) - 2, need(size) - 1, need(size), need(size) + 1, need(size) + 2, 1 << 17, 1<<17 + 1, 2*need(size) + 9} {
			b := laid(size, 3, make([]byte, max(n, 0)))
			if n == need(size) {
				decoded(t, b)
				continue
			}
			wantNone(t, b)
		}
	}
}

// BO2: bits below 1 and above 2^20, and asks below 1 and above 16, are wrong, whatever else is right; also those that are others in fewer bits.
func TestNumbersOutside(t *testing.T) {
	for _, size := range []int{mostBits + 1, mostBits + 7, mostBits + 8, 1<<21 - 1} {
		for _, asks := range []int{0, 1, 16, 17} {
			wantNone(t, laid(size, asks, make([]byte, need(size))))
			wantNone(t, laid(size, asks, make([]byte, 1<<17)))
			wantNone(t, laid(size, asks, nil))
		}
	}
	for _, asks := range []int{0, 17, 18, 32, 127, 255, 256, 257, 1 << 16, 1<<16 + 1, 1<<21 - 1} {
		for _, size := range sizes {
			wantNone(t, laid(size, asks, make([]byte, need(size))))
		}
	}
	for asks := range 18 {
		wantNone(t, laid(0, asks, nil))
		wantNone(t, laid(0, asks, make([]byte, 1)))
	}
	great := [][]byte{
		[]byte("\xf0\x10\x00\x00\x00"),                 // 2^28
		[]byte("\xf1\x00\x00\x00\x01"),                 // 2^32 + 1
		[]byte("\xf8\x10\x00\x00\x00\x08"),             // 2^36 + 8
		[]byte("\xff\x80\x00\x00\x00\x00\x00\x00\x08"), // 2^63 + 8
		[]byte("\xff\xff\xff\xff\xff\xff\xff\xff\xff"), // 2^64 - 1
	}
	for _, n := range great {
		wantNone(t, slices.Concat(n, []byte("\x01\x01\x00")))
		wantNone(t, slices.Concat([]byte("\x08"), n, []byte("\x01\x00")))
		wantNone(t, slices.Concat([]byte("\x08\x01"), n, []byte("\x00")))
	}
}

// BO2: a number that is not in its one form is wrong.
func TestNumbersForm(t *testing.T) {
	decoded(t, []byte("\x08\x01\x01\x00"))
	for _, s := range []string{
		"\x80\x08\x01\x01\x00", "\x08\x80\x01\x01\x00", "\x08\x01\x80\x01\x00",
		"\xc0\x00\x08\x01\x01\x00", "\x08\xc0\x00\x01\x01\x00", "\x08\x01\xc0\x00\x01\x00",
		"\xff\x00\x00\x00\x00\x00\x00\x00\x08\x01\x01\x00",
	} {
		wantNone(t, []byte(s))
	}
}

// BO2: bytes that end early, wherever, or go on, by whatever, are wrong; so are none.
func TestBytesTakenOffWhole(t *testing.T) {
	wantNone(t, nil)
	wantNone(t, []byte{})
	for _, c := range encoded {
		b := []byte(c.want)
		for cut := range min(len(b), 40) {
			wantNone(t, b[:cut])
			wantNone(t, b[:len(b)-1-cut])
			wantNone(t, b[cut+1:])
		}
		for _, more := range []string{"\x00", "\x01", "\xff", "\x00\x00", c.want} {
			wantNone(t, slices.Concat(b, []byte(more)))
		}
	}
}

// BO2: of all short bytes those are a filter's that the same filter is encoded as, and no others.
func TestAllShort(t *testing.T) {
	there := 0
	for n := range 1 << 16 {
		for _, b := range [][]byte{{byte(n)}, {byte(n), byte(n >> 8)}, {byte(n), 1, byte(n >> 8)}, {byte(n), 16, 1, byte(n >> 8)}, {8, byte(n), byte(n >> 8), 7}, {9, 2, 2, byte(n), byte(n >> 8)}} {
			if !isFilter(b) {
				wantNone(t, b)
				continue
			}
			there++
			wantBytes(t, decoded(t, b), b)
		}
	}
	if want := 510 + 16 + 512; there != want {
		t.Errorf("%d are filters, want %d", there, want)
	}
}

// isFilter tells whether few bytes are a filter's, of which each number is one byte, told without the program.
func isFilter(b []byte) bool {
	if len(b) < 4 || b[0] < 1 || b[0] > 127 || b[1] < 1 || b[1] > 16 || int(b[2]) != need(int(b[0])) || len(b) != 3+int(b[2]) {
		return false
	}
	return b[0]%8 == 0 || b[len(b)-1] < 1<<(b[0]%8)
}

// BO2: of bytes of which one is another one there is another filter, or none.
func TestOtherBytes(t *testing.T) {
	for _, c := range encoded[:19] {
		for at := range c.want {
			for n := range 256 {
				b := []byte(c.want)
				b[at] = byte(n)
				if f, err := bloom.Decode(b); err == nil {
					wantBytes(t, f, b)
				} else {
					wantNone(t, b)
				}
			}
		}
	}
}

// BO2: of a nil filter nothing is laid in, all may be there, and else there is nothing.
func TestNil(t *testing.T) {
	var f *bloom.Filter
	for _, key := range []string{"", "a", "abc", print32, strings.Repeat("\xff", api.MaxBlob)} {
		f.Add(key)
		wantMay(t, f, key, true)
		wantBits(t, f, key)
	}
	wantFull(t, f, 0)
	wantBytes(t, f, nil)
}
