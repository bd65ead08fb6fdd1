package keccak_test

import (
	"bytes"
	"errors"
	"fmt"
	"math"
	"strings"
	"testing"

	"drydock/api"
	"drydock/keccak"
)

// The calls as the chapter lists them.
var (
	_ func(b []byte) api.Print              = keccak.Sum
	_ func(b []byte, n int) ([]byte, error) = keccak.Shake
	_ func(h api.Print) string              = keccak.Text
	_ func() *keccak.State                  = keccak.New
	_ func(s *keccak.State, b []byte)       = (*keccak.State).Write
	_ func(s *keccak.State) api.Print       = (*keccak.State).Sum
)

const (
	rate    = 136     // bytes between two times that the rounds are done
	longest = 1 << 20 // bytes of a shake

	printSize = 32 // bytes of a sum
)

// wantErr checks that an error is that number, found as the document asks; 0: none.
func wantErr(t *testing.T, what string, err error, want api.Errno) {
	t.Helper()
	if want == 0 {
		if err != nil {
			t.Errorf("%s: %v, want no error", what, err)
		}
		return
	}
	var got api.Errno
	if !errors.As(err, &got) || got != want {
		t.Errorf("%s: %v, want %v", what, err, want)
	}
}

// hex are bytes in digits of base 16, told without the program.
func hex(b []byte) string { return fmt.Sprintf("%x", b) }

// sumOf is Sum's answer in digits.
func sumOf(b []byte) string {
	h := keccak.Sum(b)
	return hex(h[:])
}

// shakeOf is what Shake answers, where it answers no error.
func shakeOf(t *testing.T, b []byte, n int) []byte {
	t.Helper()
	shake, err := keccak.Shake(b, n)
	wantErr(t, "Shake", err, 0)
	if len(shake) != n {
		t.Errorf("a shake of %d bytes has %d", n, len(shake))
	}
	return shake
}

// pattern is a text of so many bytes, another one for each size up to 256.
func pattern(size int) []byte {
	b := make([]byte, size)
	for i := range b {
		b[i] = byte(i*i ^ size)
	}
	return b
}

// known are texts of one byte again and again, their sums, and the first 32 bytes of their shakes.
var known = []struct {
	size       int
	sum, shake string
}{
	{0, "a7ffc6f8bf1ed76651c14756a061d662f580ff4de43b49fa82d80a4b80f8434a", "46b9dd2b0ba88d13233b3feb743eeb243fcd52ea62b81b82b50c27646ed5762f"},
	{1, "80084bf2fba02475726feb2cab2d8215eab14bc6bdd8bfb2c8151257032ecd8b", "867e2cb04f5a04dcbd592501a5e8fe9ceaafca50255626ca736c138042530ba4"},
	{2, "3d3f583ee3cf8547afab715006ca5e0248da718b7a925201c218d380ad4e6a23", "ecccb5f46b30cb7ab286468ecc9ea970963de856fe1100748c68e2fae299a023"},
	{8, "5ff2e7141b91839bb76aa4bd4b503eaf50faf62a66d7f2a4ef51da2b2d2241f5", "2e6f73d8aefe4a4b03fcd895fc31ee945b824826a88dbc15003985898da6018b"},
	{31, "4ba421c2e73388ad8c3b5900cc0d16b0002c515fdcae5081623c3757eda1c7ba", "b03ebc9933324c582e6ea3eb464385f5a4d69e263e2970bea51595a84c1ca3e2"},
	{32, "2eee42b299cb44bb3d5dd0a02210ce29debc2110b7c4644ff38c53084940be21", "1146684da28f83b783f904f4091e8224ce1f841851495b008b5f34cae6555a39"},
	{64, "043d104b5480439c7acff8831ee195183928d9b7f8fcb0c655a086a87923ffee", "fb888b9159a4d0e670a114e83503202828aa1ece24807daf35ccd38154b665a0"},
	{134, "58b970c37ac2d65b599b691868a61401a501c40f235d55f059d39a942f41dcee", "f1e03f378eb77904ba15bb642a84b90de52e293eafc27cef05883b1656aec341"},
	{135, "8094bb53c44cfb1e67b7c30447f9a1c33696d2463ecc1d9c92538913392843c9", "55b991ece1e567b6e7c2c714444dd201cd51f4f3832d08e1d26bebc63e07a3d7"},
	{136, "3fc5559f14db8e453a0a3091edbd2bc25e11528d81c66fa570a4efdcc2695ee1", "8fcc5a08f0a1f6827c9cf64ee8d16e0443106359ca6c8efd230759256f44996a"},
	{137, "f8d6846cedd2ccfadf15c5879ef95af724d799eed7391fb1c91f95344e738614", "a44e1a438dad6273d540be65ee26386c59588efb09139dc086385d2db0c25782"},
	{271, "e79e5c6fef1bb5fdea2717ca27e88399e9b64699d1b3eb8e30f314fa055214e8", "62ba093b7b222ce13f2547b75b6e83ab014c42fc8c698588f8eb472c9cf21a27"},
	{272, "a490357b9b3fb39d0a89a117734e5b020b1f33c7bf3fa3575c396425432003d3", "f0063200f64a4e66e186dcbd7e239bf2a72ca01077849d1dc89d02e7de5e2fa5"},
	{273, "7930a0e2cde6f949ea52204a2fde51856de566d96d2ebe896656450a2b10b445", "edfb81a13314cc592fb4c5ec5b11dc5c127494f9167c254641261ce14a8fa41e"},
	{407, "67af9cd821e1b1d1730836e2db5d02ffe1e6435fe284eb6bc81180e62fd0e0fc", "d7399b2ec9a90b6073c819c45268ccdc59dfbaba2d18ecbf7710c208691ba32a"},
	{408, "2d7a330e30e9df7bbd0e1251c014f9b32985766fcfb9be944698e6353346a917", "6721fbf616f85267753514aec2691cbc961e3c4945c8056acee3611308e6880d"},
	{409, "0fed0f5890541b7d3d883cfd058a27bea01b6eec17da0fb0e34d2a058b4910fc", "4a843cf04577b39cbb8d2939533c6c47ed00445e96836274e3862b935099bc42"},
	{longest, "5048a5da1f1212329f4b7fbfcae42c03c5378312c643085410661fdb3569b50a", "bf7a047361c06f8dc5f14e57f1b33d318272a848f55c0bd49ef535a5ff293915"},
	{3*longest + 1, "4917fda2bb916ed91b7ec7c2b12b9b9e8c9ee2659c66bdfdaedc325d4229397b", "c39dd4afc35c93b75d0fc99ef5c0cd07b8be84639e5e8b454f4ca1647571dff1"},
}

// KE1: sums and shakes that are known, of no bytes, of 135, 136 and 137 and their multiples, and of many.
func TestKnown(t *testing.T) {
	for _, c := range known {
		b := bytes.Repeat([]byte("a"), c.size)
		if got := sumOf(b); got != c.sum {
			t.Errorf("Sum of %d bytes: %s, want %s", c.size, got, c.sum)
		}
		if got := hex(shakeOf(t, b, 32)); got != c.shake {
			t.Errorf("Shake of %d bytes: %s, want %s", c.size, got, c.shake)
		}
	}
}

// KE1: sums that are known of other bytes, and the chapter's example.
func TestSum(t *testing.T) {
	for text, want := range map[string]string{
		"abc":                       "3a985da74fe225b2045c172d6bd390bd855f086e3e9d525b46bfe24511431532",
		"\x00":                      "5d53469f20fef4f8eab52b88044ede69c77a6a68a60728609fc4a65ff531e7d0",
		"\xff":                      "444b89ecce395aec5dc98f19defd3a23bca0822fc72226f58ca46a17eeeca442",
		strings.Repeat("\x00", 64):  "070fa1ab6fcc557ed14d42941f1967693048551eb9042a8d0a057afbd75e81e0",
		strings.Repeat("\xff", 64):  "7fd8db918bee5379b22f583ce6479f784d232816beaa5642243a734a8165a15a",
		"drydock":                   "c6800b5c8736983163ea0e024a173de2962512ff3fdcd455ccc28c6d6f6ebce5",
		strings.Repeat("\xa3", 200): "79f38adec5c20307a98ef76e8324afbfd46cfd81b22e3973c65fa1bd9de31787",
	} {
		if got := sumOf([]byte(text)); got != want {
			t.Errorf("Sum(%q): %s, want %s", text, got, want)
		}
	}
	if keccak.Sum(nil) != keccak.Sum([]byte{}) {
		t.Error("Sum of nil is not that of no bytes")
	}
}

// KE1: the sum of all sums of texts of 0 to 999 bytes, and that of all shakes, each as long as its text, are known.
func TestManySizes(t *testing.T) {
	var sums, shakes []byte
	for size := range 1000 {
		h := keccak.Sum(pattern(size))
		sums = append(sums, h[:]...)
		shakes = append(shakes, shakeOf(t, pattern(size), size)...)
	}
	if got := sumOf(sums); got != "731b69f0c5c237831f8a36c42a872d150316181ffad08f71967d1c24918249a2" {
		t.Errorf("the sum of sums: %s", got)
	}
	if got := sumOf(shakes); got != "4e49b8c40bdf9a6ad54bb94d9b61287b414ef15f534af17215b836c586112331" {
		t.Errorf("the sum of shakes: %s", got)
	}
}

// KE1: a shake that is known up to one byte more than come out between two times of the rounds.
func TestShakeEdge(t *testing.T) {
	want := "46b9dd2b0ba88d13233b3feb743eeb243fcd52ea62b81b82b50c27646ed5762f" +
		"d75dc4ddd8c0f200cb05019d67b592f6fc821c49479ab48640292eacb3b7c4be" +
		"141e96616fb13957692cc7edd0b45ae3dc07223c8e92937bef84bc0eab862853" +
		"349ec75546f58fb7c2775c38462c5010d846c185c15111e595522a6bcd16cf86" +
		"f3d122109e3b1fdd94"
	for n := range rate + 2 {
		if got := hex(shakeOf(t, nil, n)); got != want[:2*n] {
			t.Errorf("Shake of %d bytes: %s, want %s", n, got, want[:2*n])
		}
	}
}

// KE1: the longest shake is answered whole, and known.
func TestShakeLongest(t *testing.T) {
	shake := shakeOf(t, nil, longest)
	if got := hex(shake[:16]); got != "46b9dd2b0ba88d13233b3feb743eeb24" {
		t.Errorf("its begin: %s", got)
	}
	if got := hex(shake[longest-16:]); got != "e288f84db0c8ea768ee55dbe5e767848" {
		t.Errorf("its end: %s", got)
	}
	if got := sumOf(shake); got != "13c431c60f2ebd6ad8b1905f0d0ab26ba8cb850f05d4771f40df9c1ede4d434d" {
		t.Errorf("its sum: %s", got)
	}
}

// KE1: a shake of fewer than 0 bytes, or of more than 2^20, is an error, whatever bytes are given; nothing is answered beside it.
func TestShakeErrors(t *testing.T) {
	errs := map[int]api.Errno{
		math.MinInt: api.ErrArg, math.MinInt32: api.ErrArg, -longest: api.ErrArg, -rate: api.ErrArg, -1: api.ErrArg,
		0: 0, 1: 0, longest - 1: 0, longest: 0,
		longest + 1: api.ErrLong, math.MaxInt32: api.ErrLong, math.MaxInt32 + 1: api.ErrLong, math.MaxInt - 1: api.ErrLong, math.MaxInt: api.ErrLong,
	}
	for n, want := range errs {
		for _, b := range [][]byte{nil, []byte("abc"), make([]byte, rate), make([]byte, longest)} {
			shake, err := keccak.Shake(b, n)
			wantErr(t, fmt.Sprintf("Shake of %d", n), err, want)
			if err != nil && len(shake) != 0 {
				t.Errorf("Shake of %d: %d bytes beside an error", n, len(shake))
			}
			if err == nil && len(shake) != n {
				t.Errorf("Shake of %d: %d bytes", n, len(shake))
			}
		}
	}
}

// KE1: a sum is no begin of its text's shake, and noughts behind a text are told: all of these are unlike.
func TestUnlike(t *testing.T) {
	seen := map[string]int{}
	for size := range 4 * rate {
		b := bytes.Repeat([]byte{0}, size)
		for _, told := range []string{sumOf(b), hex(shakeOf(t, b, 32))} {
			if other, twice := seen[told]; twice {
				t.Errorf("of %d and of %d noughts: %s", other, size, told)
			}
			seen[told] = size
		}
	}
	for bit := range 8 * 2 * rate {
		b := make([]byte, 2*rate)
		b[bit/8] = 1 << (bit % 8)
		told := sumOf(b)
		if _, twice := seen[told]; twice {
			t.Errorf("of the bit %d alone: %s, that of another text", bit, told)
		}
		seen[told] = len(b)
	}
}

// KE1: a print in digits: small letters, noughts too, byte by byte.
func TestText(t *testing.T) {
	var rising, falling api.Print
	for i := range rising {
		rising[i] = byte(i)
		falling[i] = byte(255 - i)
	}
	for want, h := range map[string]api.Print{
		strings.Repeat("0", 64): {},
		"000102030405060708090a0b0c0d0e0f101112131415161718191a1b1c1d1e1f": rising,
		"fffefdfcfbfaf9f8f7f6f5f4f3f2f1f0efeeedecebeae9e8e7e6e5e4e3e2e1e0": falling,
		"0f" + strings.Repeat("0", 60) + "f0":                              {0: 0x0f, 31: 0xf0},
		"a7ffc6f8bf1ed76651c14756a061d662f580ff4de43b49fa82d80a4b80f8434a": keccak.Sum(nil),
		"3a985da74fe225b2045c172d6bd390bd855f086e3e9d525b46bfe24511431532": keccak.Sum([]byte("abc")),
	} {
		if got := keccak.Text(h); got != want {
			t.Errorf("Text(%v): %s, want %s", h, got, want)
		}
	}
	for c := range 256 {
		for at := range printSize {
			var h api.Print
			h[at] = byte(c)
			want := strings.Repeat("00", at) + fmt.Sprintf("%02x", c) + strings.Repeat("00", printSize-1-at)
			if got := keccak.Text(h); got != want {
				t.Fatalf("Text of %d at %d: %s, want %s", c, at, got, want)
			}
		}
	}
}
