package gf_test

import (
	"errors"
	"fmt"
	"math"
	"testing"

	"drydock/api"
	"drydock/gf"
)

// The calls as the chapter lists them.
var (
	_ func() *gf.Field                           = gf.New
	_ func(f *gf.Field, a, b byte) byte          = (*gf.Field).Add
	_ func(f *gf.Field, a, b byte) byte          = (*gf.Field).Mul
	_ func(f *gf.Field, a, b byte) (byte, error) = (*gf.Field).Div
	_ func(f *gf.Field, a byte) (byte, error)    = (*gf.Field).Inv
	_ func(f *gf.Field, a byte, n int) byte      = (*gf.Field).Pow
	_ func(f *gf.Field, n int) byte              = (*gf.Field).Exp
	_ func(f *gf.Field, a byte) (int, error)     = (*gf.Field).Log
)

// outmost are numbers at the edges of their kinds, and what is left of each by 255.
var outmost = map[int]int{
	math.MaxInt:       127,
	math.MaxInt - 1:   126,
	math.MinInt:       127,
	math.MinInt + 1:   128,
	math.MaxInt32:     127,
	math.MaxInt32 + 1: 128,
	math.MinInt32:     127,
	1 << 32:           1,
	-1 << 32:          254,
	255 << 32:         0,
	-255 << 32:        0,
}

// wantErr checks that an error is that number, found as the document asks; 0: none.
func wantErr(t *testing.T, what string, err error, want api.Errno) {
	t.Helper()
	if want == 0 {
		if err != nil {
			t.Errorf("%s: %v, want no error", what, err)
		}
		return
	}
	var got api.Errno
	if !errors.As(err, &got) || got != want {
		t.Errorf("%s: %v, want %v", what, err, want)
	}
}

// inverse is that of a number that has one.
func inverse(t *testing.T, f *gf.Field, a byte) byte {
	t.Helper()
	b, err := f.Inv(a)
	wantErr(t, fmt.Sprintf("Inv(%d)", a), err, 0)
	return b
}

// part is what is left by a number that is not 0.
func part(t *testing.T, f *gf.Field, a, b byte) byte {
	t.Helper()
	c, err := f.Div(a, b)
	wantErr(t, fmt.Sprintf("Div(%d, %d)", a, b), err, 0)
	return c
}

// logarithm is that of a number that has one.
func logarithm(t *testing.T, f *gf.Field, a byte) int {
	t.Helper()
	n, err := f.Log(a)
	wantErr(t, fmt.Sprintf("Log(%d)", a), err, 0)
	return n
}

// GF1: sums are known: bits that both have are in none.
func TestAdd(t *testing.T) {
	f := gf.New()
	for _, c := range []struct{ a, b, want byte }{
		{0, 0, 0}, {0, 1, 1}, {1, 0, 1}, {1, 1, 0}, {0, 255, 255}, {255, 0, 255}, {255, 255, 0}, {255, 1, 254},
		{128, 128, 0}, {128, 127, 255}, {3, 5, 6}, {83, 202, 153},
	} {
		if got := f.Add(c.a, c.b); got != c.want {
			t.Errorf("Add(%d, %d): %d, want %d", c.a, c.b, got, c.want)
		}
	}
}

// GF1: products that are known, those with 0 and with 1 among them, and the chapter's example.
func TestMul(t *testing.T) {
	f := gf.New()
	for _, c := range []struct{ a, b, want byte }{
		{2, 128, 29}, {128, 2, 29}, {128, 128, 19}, {255, 255, 226}, {255, 2, 227}, {3, 7, 9}, {3, 3, 5}, {15, 17, 255},
		{16, 16, 29}, {29, 29, 76}, {83, 202, 143}, {200, 254, 48}, {2, 142, 1}, {142, 2, 1}, {255, 253, 1},
		{0, 0, 0}, {0, 1, 0}, {1, 0, 0}, {0, 255, 0}, {255, 0, 0}, {1, 1, 1}, {1, 255, 255}, {255, 1, 255}, {129, 1, 129},
	} {
		if got := f.Mul(c.a, c.b); got != c.want {
			t.Errorf("Mul(%d, %d): %d, want %d", c.a, c.b, got, c.want)
		}
	}
}

// GF1: inverses that are known, that of 1 among them, and the chapter's example.
func TestInv(t *testing.T) {
	f := gf.New()
	for a, want := range map[byte]byte{
		1: 1, 2: 142, 3: 244, 4: 71, 7: 186, 16: 216, 29: 131, 127: 252, 128: 27, 142: 2, 244: 3, 254: 126, 255: 253,
	} {
		if got := inverse(t, f, a); got != want {
			t.Errorf("Inv(%d): %d, want %d", a, got, want)
		}
	}
}

// GF1: parts that are known, of 0 and by 1 too.
func TestDiv(t *testing.T) {
	f := gf.New()
	for _, c := range []struct{ a, b, want byte }{
		{1, 2, 142}, {7, 7, 1}, {255, 2, 241}, {29, 128, 2}, {29, 2, 128}, {3, 255, 26}, {200, 3, 179}, {1, 255, 253}, {2, 142, 4},
		{0, 1, 0}, {0, 255, 0}, {1, 1, 1}, {255, 1, 255}, {255, 255, 1},
	} {
		if got := part(t, f, c.a, c.b); got != c.want {
			t.Errorf("Div(%d, %d): %d, want %d", c.a, c.b, got, c.want)
		}
	}
}

// GF1, GF2: 0 has no inverse and no logarithm, and nothing has a part by it, 0 neither; nothing is answered beside the error.
func TestByNothing(t *testing.T) {
	f := gf.New()
	inv, err := f.Inv(0)
	if wantErr(t, "Inv(0)", err, api.ErrZero); inv != 0 {
		t.Errorf("Inv(0): %d beside an error", inv)
	}
	n, err := f.Log(0)
	if wantErr(t, "Log(0)", err, api.ErrZero); n != 0 {
		t.Errorf("Log(0): %d beside an error", n)
	}
	for a := range 256 {
		c, err := f.Div(byte(a), 0)
		if wantErr(t, fmt.Sprintf("Div(%d, 0)", a), err, api.ErrZero); c != 0 {
			t.Errorf("Div(%d, 0): %d beside an error", a, c)
		}
	}
}

// GF2: powers of 2 that are known; with 255 more, or fewer, and at the outmost exponents, too.
func TestExp(t *testing.T) {
	f := gf.New()
	for n, want := range map[int]byte{
		0: 1, 1: 2, 2: 4, 7: 128, 8: 29, 9: 58, 16: 76, 25: 3, 127: 204, 128: 133, 175: 255, 253: 71, 254: 142,
		255: 1, 256: 2, 257: 4, 509: 142, 510: 1, 511: 2,
		-1: 142, -2: 71, -254: 2, -255: 1, -256: 142, -509: 2, -510: 1, -511: 142,
		math.MaxInt: 204, math.MaxInt - 1: 102, math.MinInt: 204, math.MinInt + 1: 133,
		math.MaxInt32: 204, math.MinInt32: 204, 1 << 32: 2, -1 << 32: 142,
	} {
		if got := f.Exp(n); got != want {
			t.Errorf("Exp(%d): %d, want %d", n, got, want)
		}
	}
}

// GF2: logarithms that are known; that of 1 is 0, not 255.
func TestLog(t *testing.T) {
	f := gf.New()
	for a, want := range map[byte]int{
		1: 0, 2: 1, 3: 25, 4: 2, 29: 8, 128: 7, 133: 128, 142: 254, 204: 127, 254: 88, 255: 175,
	} {
		if got := logarithm(t, f, a); got != want {
			t.Errorf("Log(%d): %d, want %d", a, got, want)
		}
	}
}

// GF2: powers that are known; those whose exponent is 0, of 0 too; and those of 0, which has no inverse, below 0 too.
func TestPow(t *testing.T) {
	f := gf.New()
	for _, c := range []struct {
		a    byte
		n    int
		want byte
	}{
		{3, 1, 3}, {3, 2, 5}, {3, 254, 244}, {3, 255, 1}, {3, 256, 3}, {29, 3, 143}, {128, 5, 156}, {255, 2, 226}, {255, 3, 38},
		{3, -1, 244}, {3, -254, 3}, {3, -255, 1}, {3, -256, 244}, {7, -2, 62}, {142, -1, 2}, {142, -8, 29},
		{2, math.MaxInt, 204}, {3, math.MaxInt, 124}, {255, math.MaxInt, 106}, {3, math.MaxInt - 1, 223},
		{2, math.MinInt, 204}, {3, math.MinInt, 124}, {255, math.MinInt, 106}, {3, math.MinInt + 1, 132},
		{0, 0, 1}, {1, 0, 1}, {2, 0, 1}, {255, 0, 1},
		{0, 1, 0}, {0, 2, 0}, {0, 254, 0}, {0, 255, 0}, {0, 256, 0}, {0, -1, 0}, {0, -255, 0},
		{0, math.MaxInt, 0}, {0, math.MinInt, 0}, {0, 255 << 32, 0},
		{1, 1, 1}, {1, -1, 1}, {1, 255, 1}, {1, math.MaxInt, 1}, {1, math.MinInt, 1},
	} {
		if got := f.Pow(c.a, c.n); got != c.want {
			t.Errorf("Pow(%d, %d): %d, want %d", c.a, c.n, got, c.want)
		}
	}
}
