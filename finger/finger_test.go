package finger_test

import (
	"bytes"
	"errors"
	"fmt"
	"math"
	"math/rand"
	"strings"
	"testing"

	"drydock/api"
	"drydock/finger"
	"drydock/horner"
	"drydock/keccak"
)

// The calls as the chapter lists them.
var (
	_ func(kind int, b api.Block) (api.Print, error) = finger.Of
	_ func(p api.Print) string                       = finger.Text
	_ func(p, q api.Print) bool                      = finger.Less
	_ func(p api.Print) string                       = finger.Key
)

const printSize = 32 // bytes of a fingerprint

// kinds are all of them.
var kinds = []int{finger.Strong, finger.Weak, finger.First, finger.Same}

// noKinds are numbers that are none, those next to a kind and the outmost ones, and ones that would be a kind in fewer bits.
var noKinds = []int{
	-1, -2, -3, -4, -255, -256, math.MinInt32, math.MinInt + 1, math.MinInt, math.MinInt + 3,
	4, 5, 7, 8, 255, 256, 257, 1 << 16, math.MaxInt32, math.MaxInt32 + 1, 1 << 32, 1<<32 + 1, 1<<32 + 3, math.MaxInt - 3, math.MaxInt - 1, math.MaxInt,
}

// wantErr checks that an error is that number, found as the document asks; 0: none.
func wantErr(t *testing.T, what string, err error, want api.Errno) {
	t.Helper()
	if want == 0 {
		if err != nil {
			t.Errorf("%s: %v, want no error", what, err)
		}
		return
	}
	var got api.Errno
	if !errors.As(err, &got) || got != want {
		t.Errorf("%s: %v, want %v", what, err, want)
	}
}

// of is the fingerprint of a kind that there is.
func of(t *testing.T, kind int, b api.Block) api.Print {
	t.Helper()
	p, err := finger.Of(kind, b)
	wantErr(t, fmt.Sprintf("Of(%d)", kind), err, 0)
	return p
}

// hex are a fingerprint's bytes in digits of base 16, told without the program.
func hex(p api.Print) string { return fmt.Sprintf("%x", p[:]) }

// full is a block that ends with bytes, noughts ahead.
func full(end string) api.Block {
	var b api.Block
	copy(b[len(b)-len(end):], end)
	return b
}

// row is a block whose bytes go on from a first one, each so much above the one ahead.
func row(first, step byte) api.Block {
	var b api.Block
	for i := range b {
		b[i] = first + byte(i)*step
	}
	return b
}

// anyBlock is picked by rnd.
func anyBlock(rnd *rand.Rand) api.Block {
	var b api.Block
	rnd.Read(b[:])
	return b
}

// known are blocks, and the begins of their fingerprints of the kinds 0 to 2; behind a begin stand noughts alone.
var known = []struct {
	b                   api.Block
	strong, weak, first string
}{
	{api.Block{}, "070fa1ab6fcc557ed14d42941f1967693048551eb9042a8d0a057afbd75e81e0", "0af0b993", "00"},
	{row(255, 0), "7fd8db918bee5379b22f583ce6479f784d232816beaa5642243a734a8165a15a", "4cd6826b", "ff"},
	{row('a', 0), "043d104b5480439c7acff8831ee195183928d9b7f8fcb0c655a086a87923ffee", "3815efe3", "61"},
	{row(0, 1), "c8ad478f4e1dd9d47dfc3b985708d92db1f8db48fe9cddd459e63c321f490402", "47b9c483", "00"},
	{row(255, 255), "6a81830457257218db9aa30250e6c56631774190343af436dee35393acec91a5", "100d777b", "ff"},
	{api.Block{7}, "7985b8e6d942d6822c33420a9e0445910c49bb1382470aca0e67930ce260ae20", "46023d22", "07"},
	{api.Block{128}, "95d697bf1204f01c81772d63bfdfc388f183bd347a4dfe697b3246e63b6bab01", "30c343d2", "80"},
	{api.Block{31: 1}, "68cf1eb5f53e103b4c7ebf02faf6bd002cc5559b842064bd16b514372ba98581", "20853362", "00"},
	{api.Block{63: 1}, "f436ef143484a721b4d574a1625aa79c4c882507d139cd6cf3f7530cedd5fb8c", "0af0b994", "00"},
	{api.Block{63: 255}, "13e4108f0a7a0e0abb42140619327dcc60f8f6314acfd976211f6b37fcbfa353", "0af0ba92", "00"},
	{full("\x73\xb3\x85\xc1"), "cb1344bedc4824191a9588dbb7767719aff50963e6e3927480344e85f997995f", "00000000", "00"},
	{full("\x73\xb3\x85\xc2"), "76ae6dbdc217aa9594886d2cb80d10ec82470f5696292be29c86a70288522e8c", "00000001", "00"},
	{full("\x73\xb3\x86\xbf"), "ae87373ac8ef85c0a7425c943f460d31963a498877b0d47056d85a7edaf04acd", "000000ff", "00"},
	{full("\x73\xb3\x86\xc0"), "162367d56efc9d620df8060076578b556390a3f737934425ee9bf8204c7e44d5", "00000100", "00"},
	{full("\x74\xb0\x88\xbf"), "57d9059b0c8fcb6c008c40ea25c9b9c1f1d2fb7399e28d25f687476579e212ff", "00ffffff", "00"},
	{full("\x74\xb0\x88\xc0"), "2e1a99b1c7d4d08ee677625b9c0d55ab099d33999c9dab6e015cde2770ee5fdc", "01000000", "00"},
	{full("\x73\xb3\x85\xc0"), "ad4830c4bed04351a5d40f7a90f64b77c499526895cda88797d52f0b3a33a5b1", "7ffffffe", "00"},
	{full("\x72\xb7\x80\x44"), "14459ff0575a669eaf020f4a571198feeae31f769c774a410c68c6cf3a3d44e6", "7f00ff80", "00"},
	{full("\x07\x2e\x2b\x85"), "54300386c328197ef3f2254fd24d5992fc719c0ae3aa71aa2bab3eb722673f85", "12345678", "00"},
}

// FI1: the kinds have these numbers.
func TestKinds(t *testing.T) {
	if finger.Strong != 0 || finger.Weak != 1 || finger.First != 2 || finger.Same != 3 {
		t.Errorf("kinds: %v", kinds)
	}
}

// FI1: fingerprints that are known of each kind, of a block of noughts too, with noughts behind where the kind has them.
func TestOf(t *testing.T) {
	for _, c := range known {
		for kind, begin := range []string{c.strong, c.weak, c.first, ""} {
			want := begin + strings.Repeat("0", 2*printSize-len(begin))
			if got := hex(of(t, kind, c.b)); got != want {
				t.Errorf("Of(%d, % x): %s, want %s", kind, c.b, got, want)
			}
		}
	}
}

// FI1: any block's fingerprint is, by its kind, what the layers beneath tell of it.
func TestOfIsTheSum(t *testing.T) {
	rnd := rand.New(rand.NewSource(1))
	for range 3000 {
		b := anyBlock(rnd)
		if got, want := of(t, finger.Strong, b), keccak.Sum(b[:]); got != want {
			t.Fatalf("Of(Strong, % x): %x, want %x", b, got, want)
		}
		want := fmt.Sprintf("%08x%056x", horner.Sum(b[:]), 0)
		if got := hex(of(t, finger.Weak, b)); got != want {
			t.Fatalf("Of(Weak, % x): %s, want %s", b, got, want)
		}
		if got := of(t, finger.Same, b); got != (api.Print{}) {
			t.Fatalf("Of(Same, % x): %x", b, got)
		}
	}
}

// FI1: of the kind First each first byte stands in the fingerprint, and none of those behind it.
func TestOfFirst(t *testing.T) {
	rnd := rand.New(rand.NewSource(2))
	for c := range 256 {
		b := anyBlock(rnd)
		for _, b := range []api.Block{{}, row(255, 0), b} {
			b[0] = byte(c)
			if got := of(t, finger.First, b); got != (api.Print{byte(c)}) {
				t.Errorf("Of(First, % x): %x", b, got)
			}
		}
	}
}

// FI1: a kind that is none, below or above, is an error, whatever the block is; nothing is answered beside it.
func TestOfNoKind(t *testing.T) {
	for _, kind := range noKinds {
		for _, c := range known {
			p, err := finger.Of(kind, c.b)
			wantErr(t, fmt.Sprintf("Of(%d)", kind), err, api.ErrArg)
			if p != (api.Print{}) {
				t.Errorf("Of(%d): %x beside an error", kind, p)
			}
		}
	}
}

// FI1: two digits a byte, small letters, noughts too, each byte in its place.
func TestText(t *testing.T) {
	for _, c := range known {
		if got := finger.Text(of(t, finger.Strong, c.b)); got != c.strong {
			t.Errorf("Text: %s, want %s", got, c.strong)
		}
		if got, want := finger.Text(of(t, finger.Weak, c.b)), c.weak+strings.Repeat("00", 28); got != want {
			t.Errorf("Text: %s, want %s", got, want)
		}
	}
	for c := range 256 {
		for at := range printSize {
			var p api.Print
			p[at] = byte(c)
			want := strings.Repeat("00", at) + fmt.Sprintf("%02x", c) + strings.Repeat("00", printSize-1-at)
			if got := finger.Text(p); got != want || got != keccak.Text(p) {
				t.Fatalf("Text of %d at %d: %s, want %s", c, at, got, want)
			}
		}
	}
}

// FI1: a key are the 32 bytes, as they are: noughts, and those that are no text's.
func TestKey(t *testing.T) {
	for want, p := range map[string]api.Print{
		strings.Repeat("\x00", 32):                {},
		strings.Repeat("\x00", 31) + "\x01":       {31: 1},
		"\x80" + strings.Repeat("\x00", 31):       {0: 128},
		"ab\xff\xfe" + strings.Repeat("\x00", 28): {'a', 'b', 255, 254},
	} {
		if got := finger.Key(p); got != want {
			t.Errorf("Key(%x): %q, want %q", p, got, want)
		}
	}
	for c := range 256 {
		for at := range printSize {
			var p api.Print
			p[at] = byte(c)
			want := append(bytes.Repeat([]byte{0}, at), byte(c))
			want = append(want, make([]byte, printSize-1-at)...)
			if got := finger.Key(p); got != string(want) {
				t.Fatalf("Key of %d at %d: %q", c, at, got)
			}
		}
	}
}
