package gf_test

import (
	"fmt"
	"math"
	"sync"
	"testing"

	"drydock/api"
	"drydock/gf"
)

// answers are what all calls tell of two numbers and an exponent.
type answers struct {
	sum, product, part, inverse, power, doubled byte
	logarithm                                   int
	noPart, noInverse, noLogarithm              error
}

// ask makes all calls.
func ask(f *gf.Field, a, b byte, n int) answers {
	s := answers{sum: f.Add(a, b), product: f.Mul(a, b), power: f.Pow(a, n), doubled: f.Exp(n)}
	s.part, s.noPart = f.Div(a, b)
	s.inverse, s.noInverse = f.Inv(a)
	s.logarithm, s.noLogarithm = f.Log(a)
	return s
}

var (
	someNumbers   = []byte{0, 1, 2, 3, 127, 128, 142, 254, 255}
	someExponents = []int{0, 1, -1, 254, 255, 256, -254, -255, -256, math.MaxInt32, math.MinInt32, math.MaxInt - 1, math.MaxInt, math.MinInt, math.MinInt + 1}
)

// P6: every call ends and none panics, whatever it is given, of a nil one too.
func TestTotal(t *testing.T) {
	for _, f := range []*gf.Field{nil, gf.New()} {
		for a := range 256 {
			for b := range 256 {
				for _, n := range someExponents {
					ask(f, byte(a), byte(b), n)
				}
			}
		}
	}
}

// GF3: a nil one answers 0 of whatever is asked, and ErrZero where an error can be: of numbers, too, of which another one has no error.
func TestNilField(t *testing.T) {
	var f *gf.Field
	for a := range 256 {
		for _, b := range someNumbers {
			for _, n := range someExponents {
				s := ask(f, byte(a), b, n)
				what := fmt.Sprintf("nil, of %d, %d, %d", a, b, n)
				wantErr(t, what+": Div", s.noPart, api.ErrZero)
				wantErr(t, what+": Inv", s.noInverse, api.ErrZero)
				wantErr(t, what+": Log", s.noLogarithm, api.ErrZero)
				s.noPart, s.noInverse, s.noLogarithm = nil, nil, nil
				if s != (answers{}) {
					t.Fatalf("%s: %+v", what, s)
				}
			}
		}
	}
}

// P6: each call answers right as the first one of a new field: whichever is asked first has the tables made.
func TestEachCallFirst(t *testing.T) {
	for what, c := range map[string]struct{ got, want int }{
		"Add": {int(gf.New().Add(3, 5)), 6},
		"Mul": {int(gf.New().Mul(2, 128)), 29},
		"Pow": {int(gf.New().Pow(3, 2)), 5},
		"Exp": {int(gf.New().Exp(8)), 29},
		"Div": {int(part(t, gf.New(), 1, 2)), 142},
		"Inv": {int(inverse(t, gf.New(), 2)), 142},
		"Log": {logarithm(t, gf.New(), 29), 8},
	} {
		if c.got != c.want {
			t.Errorf("%s, asked first: %d, want %d", what, c.got, c.want)
		}
	}
	if gf.New() == nil {
		t.Error("New: nil")
	}
}

// P6: the same call answers the same, whatever was asked between, of this field, of another one, and of a nil one.
func TestSameAgain(t *testing.T) {
	f, other := gf.New(), gf.New()
	for _, a := range someNumbers {
		for _, b := range someNumbers {
			for _, n := range someExponents {
				was := ask(f, a, b, n)
				ask(f, b, a, n+1)
				ask(f, 0, 0, -n)
				ask(other, b, a, -n)
				ask(nil, a, b, n)
				if got := ask(f, a, b, n); got != was {
					t.Fatalf("of %d, %d, %d: %+v, was %+v", a, b, n, got, was)
				}
				if got := ask(gf.New(), a, b, n); got != was {
					t.Fatalf("of %d, %d, %d: %+v, a new one %+v", a, b, n, was, got)
				}
			}
		}
	}
}

// P6: the tables are made once, though many ask for them first, at one time: each is answered as the others are.
func TestManyAskFirst(t *testing.T) {
	for range 200 {
		f := gf.New()
		var got [8][256]byte
		var wait sync.WaitGroup
		for i := range got {
			wait.Go(func() {
				for a := range got[i] {
					got[i][a] = f.Mul(byte(a), 2)
				}
			})
		}
		wait.Wait()
		for i := range got {
			for a, c := range got[i] {
				if want := product(byte(a), 2); c != want {
					t.Fatalf("Mul(%d, 2), asked by %d: %d, want %d", a, i, c, want)
				}
			}
		}
	}
}
