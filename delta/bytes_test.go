package delta_test

import (
	"bytes"
	"math"
	"math/rand"
	"slices"
	"strings"
	"testing"

	"drydock/api"
	"drydock/delta"
)

// encoded are parts, and the bytes that they are; of these only such are decoded again as tell no more than there may be.
var encoded = []struct {
	l       []delta.Op
	want    string
	decoded bool
}{
	{nil, "\x00", true},
	{[]delta.Op{copied(0, 64)}, "\x01\x01\x00\x40", true},
	{[]delta.Op{copied(64, 64)}, "\x01\x01\x40\x40", true},
	{[]delta.Op{copied(0, 0)}, "\x01\x01\x00\x00", true},
	{[]delta.Op{told("ab")}, "\x01\x00\x02ab", true},
	{[]delta.Op{told("")}, "\x01\x00\x00", true},
	{[]delta.Op{{}}, "\x01\x00\x00", true},
	{[]delta.Op{copied(1, 2), told("ab"), copied(64, 0)}, "\x03\x01\x01\x02\x00\x02ab\x01\x40\x00", true},
	{[]delta.Op{told("a"), told("b")}, "\x02\x00\x01a\x00\x01b", true},
	{[]delta.Op{told(strings.Repeat("a", 64))}, "\x01\x00\x40" + strings.Repeat("a", 64), true},
	{slices.Repeat([]delta.Op{copied(3, 1)}, 64), "\x40" + strings.Repeat("\x01\x03\x01", 64), true},
	{slices.Repeat([]delta.Op{told("a")}, 64), "\x40" + strings.Repeat("\x00\x01a", 64), true},
	{slices.Repeat([]delta.Op{told(strings.Repeat("a", 64))}, 64), "\x40" + strings.Repeat("\x00\x40"+strings.Repeat("a", 64), 64), true},

	{slices.Repeat([]delta.Op{copied(3, 1)}, 65), "\x41" + strings.Repeat("\x01\x03\x01", 65), false},
	{slices.Repeat([]delta.Op{told("")}, 65), "\x41" + strings.Repeat("\x00\x00", 65), false},
	{slices.Repeat([]delta.Op{told("a")}, 128), "\x80\x80" + strings.Repeat("\x00\x01a", 128), false},
	{[]delta.Op{copied(0, 65)}, "\x01\x01\x00\x41", false},
	{[]delta.Op{copied(65, 0)}, "\x01\x01\x41\x00", false},
	{[]delta.Op{told(strings.Repeat("a", 65))}, "\x01\x00\x41" + strings.Repeat("a", 65), false},
	{[]delta.Op{told(strings.Repeat("a", 128))}, "\x01\x00\x80\x80" + strings.Repeat("a", 128), false},
	{[]delta.Op{copied(127, 128)}, "\x01\x01\x7f\x80\x80", false},
	{[]delta.Op{copied(16383, 16384)}, "\x01\x01\xbf\xff\xc0\x40\x00", false},
	{[]delta.Op{copied(300, 1<<32)}, "\x01\x01\x81\x2c\xf1\x00\x00\x00\x00", false},
	{[]delta.Op{copied(-1, -1)}, "\x01\x01" + strings.Repeat("\xff", 18), false},
	{[]delta.Op{copied(-1, 5)}, "\x01\x01" + strings.Repeat("\xff", 9) + "\x05", false},
	{[]delta.Op{copied(5, -1)}, "\x01\x01\x05" + strings.Repeat("\xff", 9), false},
	{[]delta.Op{copied(-64, -1<<32)}, "\x01\x01\xff\xff\xff\xff\xff\xff\xff\xff\xc0\xff\xff\xff\xff\xff\x00\x00\x00\x00", false},
	{[]delta.Op{copied(math.MinInt, math.MaxInt)}, "\x01\x01\xff\x80\x00\x00\x00\x00\x00\x00\x00\xff\x7f\xff\xff\xff\xff\xff\xff\xff", false},
}

// wantEncode checks parts' bytes.
func wantEncode(t *testing.T, l []delta.Op, want []byte) {
	t.Helper()
	if got := delta.Encode(l); !bytes.Equal(got, want) {
		t.Fatalf("Encode(%v):\n% x, want\n% x", l[:min(len(l), 70)], got, want)
	}
}

// wantDecode checks bytes' parts.
func wantDecode(t *testing.T, b []byte, want []delta.Op) {
	t.Helper()
	got, err := delta.Decode(b)
	wantErr(t, "Decode", err, 0)
	if !same(got, want) {
		t.Fatalf("Decode(% x):\n%v, want\n%v", b, got, want)
	}
}

// wantNoParts checks that bytes are no parts.
func wantNoParts(t *testing.T, b []byte) {
	t.Helper()
	got, err := delta.Decode(b)
	if err == nil {
		t.Fatalf("Decode(% x): %v, want an error", b[:min(len(b), 300)], got)
	}
	wantErr(t, "Decode", err, api.ErrForm)
	if len(got) > 0 {
		t.Fatalf("Decode(% x): %v beside an error", b[:min(len(b), 300)], got)
	}
}

// DE2: parts are the bytes that are known, of no parts and of many, and of numbers below 0 too.
func TestEncode(t *testing.T) {
	for _, c := range encoded {
		wantEncode(t, c.l, []byte(c.want))
	}
	wantEncode(t, []delta.Op{}, []byte{0})
}

// DE2: of a part that copies no bytes are laid, and of one that is told no numbers.
func TestEncodeOfWhatHasNoMeaning(t *testing.T) {
	wantEncode(t, []delta.Op{{Copy: true, From: 1, Len: 2, Bytes: []byte("ab")}}, []byte{1, 1, 1, 2})
	wantEncode(t, []delta.Op{{From: 1, Len: 2, Bytes: []byte("ab")}}, []byte("\x01\x00\x02ab"))
	wantEncode(t, []delta.Op{{From: -1, Len: math.MaxInt}}, []byte{1, 0, 0})
}

// DE2: any parts, of numbers of all sizes, are the bytes of the model.
func TestEncodeOfAny(t *testing.T) {
	rnd := rand.New(rand.NewSource(4))
	number := func() int { return int(rnd.Uint64() >> rnd.Intn(64)) }
	for range 3000 {
		var l []delta.Op
		for range rnd.Intn(9) {
			l = append(l, delta.Op{Copy: rnd.Intn(2) == 0, From: number(), Len: number(), Bytes: anyBytes(rnd, rnd.Intn(300), 256)})
		}
		wantEncode(t, l, modelEncode(l))
	}
	for _, n := range []int{63, 64, 65, 127, 128, 16383, 16384, 40000} {
		l := slices.Repeat([]delta.Op{copied(n, -n)}, n)
		wantEncode(t, l, modelEncode(l))
		l = []delta.Op{told(strings.Repeat("a", n))}
		wantEncode(t, l, modelEncode(l))
	}
}

// DE2: what is known is decoded, up to as much as there may be, and nothing that tells more.
func TestDecode(t *testing.T) {
	for _, c := range encoded {
		if c.decoded {
			wantDecode(t, []byte(c.want), c.l)
		} else {
			wantNoParts(t, []byte(c.want))
		}
	}
}

// DE2: of these bytes none are parts.
func TestDecodeOfOtherBytes(t *testing.T) {
	for _, s := range []string{
		"", "\x01", "\x40", "\x41", "\x7f", "\x80", "\x80\x00", "\x80\x01\x00\x00", "\xff", strings.Repeat("\xff", 9),
		"\x00\x00", "\x00\x01", // behind no parts
		"\x01\x00", "\x01\x01", "\x01\x02", "\x01\xff", "\x01\x02\x00\x00", "\x01\xff\x00\x00", // no truth
		"\x01\x01\x00", "\x01\x01\x40", // no Len
		"\x01\x01\x80\x00\x00", "\x01\x01\x00\x80\x00", "\x01\x01\x80\x40\x40", "\x01\x01\x40\x80\x40", "\x01\x00\x80\x01a", // fewer bytes would do
		"\x01\x01\x41\x40", "\x01\x01\x40\x41", "\x01\x01\x7f\x00", "\x01\x01\x00\x7f", "\x01\x01\x80\x80\x00", // above
		"\x01\x01\x80", "\x01\x01\x00\xff\xff\xff\xff\xff\xff\xff\xff", "\x01\x01" + strings.Repeat("\xff", 18),
		"\x01\x00\x01", "\x01\x00\x02a", "\x01\x00\x40" + strings.Repeat("a", 63), // too few bytes
		"\x01\x00\x01ab", "\x01\x00\x40" + strings.Repeat("a", 65), "\x01\x01\x00\x40\x00", // some behind
		"\x01\x00\x41" + strings.Repeat("a", 65), "\x01\x00\x41" + strings.Repeat("a", 64),
		"\x02\x01\x00\x40", "\x02\x00\x01a\x00", "\x02\x00\x01a", "\x01\x00\x01a\x00\x01b", // fewer parts, and more
		"\x40" + strings.Repeat("\x00\x01a", 63), "\x40" + strings.Repeat("\x00\x01a", 65), "\x41" + strings.Repeat("\x00\x01a", 65),
	} {
		wantNoParts(t, []byte(s))
	}
	wantNoParts(t, nil)
}

// DE2: bytes that end early, or go on behind, are no parts.
func TestDecodeTakesAllOff(t *testing.T) {
	for _, c := range encoded {
		if !c.decoded {
			continue
		}
		for n := range len(c.want) {
			wantNoParts(t, []byte(c.want[:n]))
		}
		for _, more := range []string{"\x00", "\x01", "a", "\xff", "\x00\x00", c.want} {
			wantNoParts(t, []byte(c.want+more))
		}
	}
}

// wantAsModel checks that bytes are decoded as the model says; true, where they are parts.
func wantAsModel(t *testing.T, b []byte) bool {
	t.Helper()
	want, ok := modelDecode(b)
	if !ok {
		wantNoParts(t, b)
		return false
	}
	wantDecode(t, b, want)
	wantEncode(t, want, b)
	return true
}

// DE2: all short bytes are decoded as the model says, and what is decoded is encoded as the same bytes.
func TestDecodeOfAllShort(t *testing.T) {
	wantAsModel(t, nil)
	for a := range 256 {
		wantAsModel(t, []byte{byte(a)})
		for b := range 256 {
			wantAsModel(t, []byte{byte(a), byte(b)})
			wantAsModel(t, []byte{1, byte(a), byte(b)})
			wantAsModel(t, []byte{1, 1, byte(a), byte(b)})
			wantAsModel(t, []byte{1, 0, byte(a), byte(b)})
			wantAsModel(t, []byte{2, 0, 0, byte(a), byte(b)})
		}
	}
}

// anyParts are so many parts that can be decoded, picked by rnd.
func anyParts(rnd *rand.Rand, n int) []delta.Op {
	var l []delta.Op
	for range n {
		if rnd.Intn(2) == 0 {
			l = append(l, copied(rnd.Intn(size+1), rnd.Intn(size+1)))
		} else {
			l = append(l, delta.Op{Bytes: anyBytes(rnd, rnd.Intn(size+1), 256)})
		}
	}
	return l
}

// DE2: any parts' bytes, with a byte more or less or with another one, are decoded as the model says.
func TestDecodeOfAny(t *testing.T) {
	rnd := rand.New(rand.NewSource(5))
	parts := 0
	for n := range 4000 {
		l := anyParts(rnd, rnd.Intn(1+n%(most+6)))
		b := modelEncode(l)
		if wantAsModel(t, b) != (len(l) <= most) {
			t.Fatalf("%d parts: % x", len(l), b)
		}
		at := rnd.Intn(min(len(b), 8))
		other := slices.Clone(b)
		other[at] = byte(rnd.Intn(67))
		for _, b := range [][]byte{other, slices.Delete(slices.Clone(b), at, at+1), slices.Insert(slices.Clone(b), at, 0)} {
			if wantAsModel(t, b) {
				parts++
			}
		}
	}
	if parts < 300 {
		t.Errorf("of so few other bytes there were parts: %d", parts)
	}
}
