package horner_test

import (
	"bytes"
	"math/rand"
	"slices"
	"strings"
	"testing"

	"drydock/api"
	"drydock/horner"
)

// sealed are texts, and their sums as bytes.
var sealed = []struct{ text, tail string }{
	{"", "\x01\x00\x00\x00"},
	{"\x00", "\x01\x01\x00\x00"},
	{"\xff", "\x00\x02\x00\x00"},
	{"a", "\x62\x01\x00\x00"},
	{"ab", "\xc4\x63\x01\x00"},
	{"abc", "\x27\x28\x65\x01"},
	{"abcd", "\x8d\x4f\x8d\x66"},
	{"z\x89z\x7e", "\xfe\xff\xff\x7f"},
	{"z\x89z\x7f", "\x00\x00\x00\x00"},
	{"z\x89z\x80", "\x01\x00\x00\x00"},
}

// wantOpen checks that bytes open, and what they are then.
func wantOpen(t *testing.T, b []byte, want string) {
	t.Helper()
	got, err := horner.Open(b)
	if err != nil || string(got) != want {
		t.Errorf("Open(% x): % x, %v, want % x", b, got, err, want)
	}
}

// wantShut checks that bytes do not open, and that nothing is answered beside the error.
func wantShut(t *testing.T, b []byte, want api.Errno) {
	t.Helper()
	got, err := horner.Open(b)
	if wantErr(t, "Open", err, want); len(got) != 0 {
		t.Errorf("Open: % x beside an error", got)
	}
	if t.Failed() {
		t.Fatalf("bytes: % x", b)
	}
}

// HN2: bytes, and their sum behind them, the lowest byte first; these open again.
func TestSeal(t *testing.T) {
	for _, c := range sealed {
		if got := horner.Seal([]byte(c.text)); string(got) != c.text+c.tail {
			t.Errorf("Seal(%q): % x, want % x", c.text, got, c.text+c.tail)
		}
		wantOpen(t, []byte(c.text+c.tail), c.text)
	}
	if got := horner.Seal(nil); string(got) != "\x01\x00\x00\x00" {
		t.Errorf("Seal(nil): % x", got)
	}
}

// HN2: what is sealed opens, also what is sealed once more, and whole blobs.
func TestSealThereAndBack(t *testing.T) {
	rnd := rand.New(rand.NewSource(4))
	sizes := []int{0, 1, 2, 3, 4, 5, api.BlockSize, api.MaxBlob}
	for range 500 {
		sizes = append(sizes, rnd.Intn(300))
	}
	for _, size := range sizes {
		b := anyBytes(rnd, size)
		once := horner.Seal(b)
		if len(once) != size+4 || !bytes.HasPrefix(once, b) {
			t.Fatalf("Seal of %d bytes: %d, or others ahead", size, len(once))
		}
		twice := horner.Seal(once)
		wantOpen(t, twice, string(once))
		wantOpen(t, once, string(b))
	}
}

// HN2: fewer than four bytes end ahead of their end, whatever they are; four can be a sum.
func TestOpenTooFew(t *testing.T) {
	wantShut(t, nil, api.ErrEnd)
	for _, c := range sealed {
		for cut := range 4 {
			wantShut(t, []byte(c.tail[:cut]), api.ErrEnd)
			wantShut(t, []byte(c.tail[4-cut:]), api.ErrEnd)
		}
	}
	for size := range 4 {
		wantShut(t, bytes.Repeat([]byte{255}, size), api.ErrEnd)
	}
	wantOpen(t, []byte("\x01\x00\x00\x00"), "")
	wantShut(t, []byte("\x00\x00\x00\x00"), api.ErrSum)
}

// HN2: no other four bytes behind a text open it: none with a bit or a byte that is another one, none in another order, nor the sum and the modulus, which have the same remainder.
func TestOpenOtherTail(t *testing.T) {
	for _, c := range sealed {
		b := []byte(c.text + c.tail)
		tail := b[len(c.text):]
		for i := range tail {
			was := tail[i]
			for n := range 256 {
				if tail[i] = byte(n); tail[i] != was {
					wantShut(t, b, api.ErrSum)
				}
			}
			tail[i] = was
		}
		slices.Reverse(tail)
		if string(tail) != c.tail {
			wantShut(t, b, api.ErrSum)
		}
		sum := horner.Sum([]byte(c.text)) + modulus
		for i := range tail {
			tail[i] = byte(sum >> (8 * i))
		}
		wantShut(t, b, api.ErrSum)
	}
}

// HN2: bytes that were sealed, and then lost some, got some, or changed, do not open.
func TestOpenOtherBytes(t *testing.T) {
	b := horner.Seal([]byte("blocks that are there once"))
	for cut := 4; cut < len(b); cut++ {
		wantShut(t, b[:cut], api.ErrSum)
		wantShut(t, b[len(b)-cut:], api.ErrSum)
	}
	for n := range 256 {
		wantShut(t, append(slices.Clone(b), byte(n)), api.ErrSum)
		wantShut(t, append([]byte{byte(n)}, b...), api.ErrSum) // a nought ahead is told, too
	}
	for i := range len(b) * 8 {
		other := slices.Clone(b)
		other[i/8] ^= 1 << (i % 8)
		wantShut(t, other, api.ErrSum)
	}
	wantShut(t, []byte("bytes that were never sealed"), api.ErrSum)
	wantShut(t, []byte(strings.Repeat("\x00", 100)), api.ErrSum)
}
