package horner_test

import (
	"errors"
	"math"
	"math/big"
	"math/rand"
	"strings"
	"testing"

	"drydock/api"
	"drydock/horner"
)

// The calls as the chapter lists them.
var (
	_ func(b []byte) uint32                    = horner.Sum
	_ func(sum uint32, b []byte) uint32        = horner.More
	_ func(a, b uint32, n int) (uint32, error) = horner.Join
	_ func(b []byte) []byte                    = horner.Seal
	_ func(b []byte) ([]byte, error)           = horner.Open
)

// modulus is the number by which remainders are taken.
const modulus = 1<<31 - 1

// wantErr checks that an error is that number, found as the document asks; 0: none.
func wantErr(t *testing.T, what string, err error, want api.Errno) {
	t.Helper()
	if want == 0 {
		if err != nil {
			t.Errorf("%s: %v, want no error", what, err)
		}
		return
	}
	var got api.Errno
	if !errors.As(err, &got) || got != want {
		t.Errorf("%s: %v, want %v", what, err, want)
	}
}

// rest is a whole number's remainder, never below 0.
func rest(n *big.Int) uint32 {
	return uint32(new(big.Int).Mod(n, big.NewInt(modulus)).Uint64())
}

// power is 257, multiplied n times by itself, as it is up to the remainder.
func power(n int) *big.Int {
	return new(big.Int).Exp(big.NewInt(257), big.NewInt(int64(n)), big.NewInt(modulus))
}

// whole is the number whose digits are a first one and bytes, as the chapter tells it, with no remainder taken.
func whole(first uint32, b []byte) *big.Int {
	n := big.NewInt(int64(first))
	for _, c := range b {
		n.Mul(n, big.NewInt(257))
		n.Add(n, big.NewInt(int64(c)))
	}
	return n
}

// joined is Join's formula, in whole numbers.
func joined(a, b uint32, n int) uint32 {
	less := big.NewInt(int64(a) - 1)
	return rest(less.Add(less.Mul(less, power(n)), big.NewInt(int64(b))))
}

// anyBytes are so many, picked by rnd.
func anyBytes(rnd *rand.Rand, size int) []byte {
	b := make([]byte, size)
	rnd.Read(b)
	return b
}

// anySum is a number of 32 bits, often one near an edge.
func anySum(rnd *rand.Rand) uint32 {
	if rnd.Intn(2) == 0 {
		return sums[rnd.Intn(len(sums))]
	}
	return rnd.Uint32()
}

// sums are numbers at, above and below all that a sum can be.
var sums = []uint32{
	0, 1, 2, 256, 257, 258,
	modulus - 2, modulus - 1, modulus, modulus + 1, modulus + 2,
	2*modulus - 1, 2 * modulus, math.MaxUint32,
}

// counts are how many bytes a text can be told to have, small ones and edges.
var counts = []int{0, 1, 2, 3, 4, 5, 63, 64, api.MaxBlob, math.MaxInt32 - 1, math.MaxInt32, math.MaxInt32 + 1, math.MaxInt - 1, math.MaxInt}

// summed are texts and their sums, among them ones whose number is at the modulus, or next to it or its multiples.
var summed = []struct {
	text string
	sum  uint32
}{
	{"", 1},
	{"\x00", 257},
	{"\x00\x00", 66049},
	{"\xff", 512},
	{"a", 354},
	{"ab", 91076},
	{"ba", 91332},
	{"abc", 23406631},
	{"\xff\xff\xff", 33882878},
	{"\x00\x00\x00\x00", 67503107},
	{"abcd", 1720536973},
	{"\xff\xff\xff\xff", 117965313},
	{"z\x89z\x7e", modulus - 1},
	{"z\x89z\x7f", 0},
	{"z\x89z\x80", 1},
	{"\xf9\x0b\xf8\xfe", modulus - 1},
	{"\x00t\x97m{", modulus - 1},
	{"\x00t\x97m|", 0},
	{"\x00t\x97m}", 1},
	{"drydock", 1085979762},
	{strings.Repeat("\x00", 64), 183548307},
	{strings.Repeat("\xff", 64), 1289126507},
}

// HN1: sums that are known, and the chapter's examples.
func TestSum(t *testing.T) {
	for _, c := range summed {
		if got := horner.Sum([]byte(c.text)); got != c.sum {
			t.Errorf("Sum(%q): %d, want %d", c.text, got, c.sum)
		}
	}
	if got := horner.Sum(nil); got != 1 {
		t.Errorf("Sum(nil): %d", got)
	}
}

// HN1: all texts of one byte and of two, and random ones, have the sum that the number has.
func TestSumIsTheNumbers(t *testing.T) {
	for a := range 256 {
		wantSum(t, []byte{byte(a)})
		for b := range 256 {
			wantSum(t, []byte{byte(a), byte(b)})
		}
	}
	rnd := rand.New(rand.NewSource(1))
	for range 3000 {
		wantSum(t, anyBytes(rnd, rnd.Intn(200)))
	}
}

// wantSum checks a text's sum against the whole number.
func wantSum(t *testing.T, b []byte) {
	t.Helper()
	if got, want := horner.Sum(b), rest(whole(1, b)); got != want {
		t.Fatalf("Sum(% x): %d, want %d", b, got, want)
	}
}

// HN1: long texts of one byte again and again, whose sum is that of a row: 257^n and c times (257^n - 1) / 256.
func TestSumOfLongTexts(t *testing.T) {
	for _, size := range []int{1 << 10, 12345, api.MaxBlob, 3*api.MaxBlob + 1} {
		for _, c := range []byte{0, 1, 127, 128, 255} {
			row := new(big.Int).Sub(power(size), big.NewInt(1))
			row.Mul(row, new(big.Int).ModInverse(big.NewInt(256), big.NewInt(modulus)))
			row.Mul(row, big.NewInt(int64(c)))
			want := rest(row.Add(row, power(size)))
			if got := horner.Sum([]byte(strings.Repeat(string([]byte{c}), size))); got != want {
				t.Errorf("Sum of %d bytes %d: %d, want %d", size, c, got, want)
			}
		}
	}
}

// HN1: a sum that is gone on from is one digit, of whatever size.
func TestMore(t *testing.T) {
	rnd := rand.New(rand.NewSource(2))
	for _, sum := range sums {
		for _, c := range summed {
			wantMore(t, sum, []byte(c.text))
		}
	}
	for range 3000 {
		wantMore(t, anySum(rnd), anyBytes(rnd, rnd.Intn(100)))
	}
}

// wantMore checks More against the whole number.
func wantMore(t *testing.T, sum uint32, b []byte) {
	t.Helper()
	if got, want := horner.More(sum, b), rest(whole(sum, b)); got != want {
		t.Fatalf("More(%d, % x): %d, want %d", sum, b, got, want)
	}
}

// HN1: with no more bytes a sum is its own remainder.
func TestMoreOfNothing(t *testing.T) {
	for sum, want := range map[uint32]uint32{
		0: 0, 1: 1, 354: 354, modulus - 1: modulus - 1,
		modulus: 0, modulus + 1: 1, 2*modulus - 1: modulus - 1, 2 * modulus: 0, math.MaxUint32: 1,
	} {
		for _, b := range [][]byte{nil, {}} {
			if got := horner.More(sum, b); got != want {
				t.Errorf("More(%d, nothing): %d, want %d", sum, got, want)
			}
		}
	}
}

// HN1: joined sums that are known: of a below 1 the formula's number is below 0, its remainder never.
func TestJoin(t *testing.T) {
	for _, c := range []struct {
		a, b uint32
		n    int
		want uint32
	}{
		{1, 1, 0, 1},
		{1, 354, 1, 354},
		{354, 1, 0, 354},
		{354, 355, 1, 91076}, // a, and b behind it
		{0, 0, 0, modulus - 1},
		{0, 1, 0, 0},
		{0, 0, 1, modulus - 257},
		{0, 256, 1, modulus - 1},
		{0, 257, 1, 0},
		{0, modulus, 0, modulus - 1},
		{modulus, 0, 0, modulus - 1},
		{modulus + 1, 0, 9, 0},
		{1, modulus, math.MaxInt, 0},
		{1, math.MaxUint32, math.MaxInt, 1},
		{2, 0, 0, 1},
		{2, 0, 3, 16974593},
		{2, 0, modulus - 1, 1}, // so often multiplied, a number is 1 again
		{2, 0, modulus, 257},
		{math.MaxUint32, 0, 4, 0},
	} {
		got, err := horner.Join(c.a, c.b, c.n)
		if err != nil || got != c.want {
			t.Errorf("Join(%d, %d, %d): %d, %v, want %d", c.a, c.b, c.n, got, err, c.want)
		}
	}
}

// HN1: of any numbers Join is its formula.
func TestJoinIsItsFormula(t *testing.T) {
	for _, a := range sums {
		for _, b := range sums {
			for _, n := range counts {
				wantJoin(t, a, b, n)
			}
		}
	}
	rnd := rand.New(rand.NewSource(3))
	for range 20000 {
		wantJoin(t, anySum(rnd), anySum(rnd), int(rnd.Uint64()>>(1+rnd.Intn(63))))
	}
}

// wantJoin checks Join against its formula.
func wantJoin(t *testing.T, a, b uint32, n int) {
	t.Helper()
	got, err := horner.Join(a, b, n)
	if want := joined(a, b, n); err != nil || got != want {
		t.Fatalf("Join(%d, %d, %d): %d, %v, want %d", a, b, n, got, err, want)
	}
}

// HN1: a text has no fewer bytes than none, whatever its sum is.
func TestJoinBelowNothing(t *testing.T) {
	for _, n := range []int{-1, -2, -257, math.MinInt32, math.MinInt + 1, math.MinInt} {
		for _, a := range sums {
			got, err := horner.Join(a, 354, n)
			wantErr(t, "Join", err, api.ErrArg)
			if got != 0 {
				t.Errorf("Join(%d, 354, %d): %d beside an error", a, n, got)
			}
		}
	}
}
