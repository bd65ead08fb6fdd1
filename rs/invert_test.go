package rs_test

import (
	"fmt"
	"math/rand"
	"slices"
	"testing"

	"drydock/api"
	"drydock/rs"
)

// inverted is the inverse of a matrix that has one.
func inverted(t *testing.T, m [][]byte) [][]byte {
	t.Helper()
	rows, err := rs.Invert(m)
	wantErr(t, fmt.Sprintf("Invert(%v)", m), err, 0)
	return rows
}

// RS2: inverses that are known: of one number, of rows that must change places, and of as many as there may be.
func TestInvert(t *testing.T) {
	for _, c := range []struct{ m, want [][]byte }{
		{[][]byte{{1}}, [][]byte{{1}}},
		{[][]byte{{2}}, [][]byte{{142}}},
		{[][]byte{{0, 1}, {1, 0}}, [][]byte{{0, 1}, {1, 0}}},
		{[][]byte{{0, 2}, {3, 0}}, [][]byte{{0, 244}, {142, 0}}},
		{[][]byte{{1, 5}, {0, 1}}, [][]byte{{1, 5}, {0, 1}}},
		{[][]byte{{1, 0}, {142, 244}}, [][]byte{{1, 0}, {143, 3}}},
		{[][]byte{{0, 0, 1}, {1, 0, 0}, {0, 1, 0}}, [][]byte{{0, 1, 0}, {0, 0, 1}, {1, 0, 0}}},
		{[][]byte{{1, 1, 0}, {1, 1, 1}, {0, 1, 1}}, [][]byte{{0, 1, 1}, {1, 1, 1}, {1, 1, 0}}},
		{ones(api.MaxParts), ones(api.MaxParts)},
	} {
		wantLists(t, fmt.Sprintf("Invert(%v)", c.m), inverted(t, c.m), c.want)
	}
}

// RS2: rows in any order: the inverse's columns are in that order.
func TestInvertPlaces(t *testing.T) {
	rnd := rand.New(rand.NewSource(10))
	for range 200 {
		n := 1 + rnd.Intn(api.MaxParts)
		m, want := make([][]byte, n), make([][]byte, n)
		for i := range n {
			m[i], want[i] = make([]byte, n), make([]byte, n)
		}
		for i, j := range rnd.Perm(n) {
			number := byte(1 + rnd.Intn(255))
			m[i][j], want[j][i] = number, counterpart(number)
		}
		wantLists(t, fmt.Sprintf("Invert(%v)", m), inverted(t, m), want)
	}
}

// RS2: what is no matrix: no rows, more than MaxParts, rows of fewer or more numbers, or of unlike ones, and rows of none; it is told first, whether or not there were an inverse.
func TestNoMatrix(t *testing.T) {
	for _, m := range [][][]byte{
		nil, {}, {{}}, {nil}, {nil, nil}, {{}, {}},
		{{1, 0}}, {{0, 0}}, {{1}, {2}}, {{0}, {0}}, {{1}, {0, 1}}, {{1, 0}, {1}}, {{1, 0}, {0, 1, 0}}, {{0, 0}, {0}}, {{1, 0}, nil}, {nil, {0, 1}},
		{{1, 0}, {0, 1}, {0, 0}}, {{1, 0, 0}, {0, 1, 0}}, {{1, 0, 0}, {0, 1}, {0, 0, 1}}, {{1, 0, 0}, {0, 1, 0}, {0, 0, 1, 0}},
		{{1, 0}, {0, 1, 0}, {0, 0, 1}}, {{1, 0, 0, 0}, {0, 1, 0}, {0, 0, 1}}, {{1, 0, 0, 0}, {0, 1}, {0, 0, 1}},
		ones(api.MaxParts + 1), ones(2 * api.MaxParts), ones(256), ones(257),
		make([][]byte, api.MaxParts), make([][]byte, api.MaxParts+1), ones(api.MaxParts + 1)[:api.MaxParts],
	} {
		got, err := rs.Invert(m)
		wantNoLists(t, fmt.Sprintf("Invert(%v)", m), got, err, api.ErrArg)
	}
}

// RS2: what has no inverse: noughts, a row or a column of them, two rows or columns that are one, or one that is the sum of others.
func TestNoInverse(t *testing.T) {
	for _, m := range [][][]byte{
		{{0}}, {{0, 0}, {0, 0}}, {{1, 0}, {0, 0}}, {{0, 0}, {0, 1}}, {{0, 1}, {0, 1}}, {{1, 0}, {1, 0}}, {{1, 1}, {1, 1}}, {{5, 7}, {5, 7}},
		{{1, 2}, {2, 4}}, {{2, 128}, {4, 29}}, {{1, 1, 0}, {0, 1, 1}, {1, 0, 1}}, {{1, 2, 3}, {4, 5, 6}, {5, 7, 5}},
		{{1, 0, 0}, {0, 0, 0}, {0, 0, 1}}, {{0, 1, 0}, {0, 0, 1}, {0, 1, 1}}, {{1, 0, 2}, {0, 1, 3}, {0, 0, 0}},
	} {
		got, err := rs.Invert(m)
		wantNoLists(t, fmt.Sprintf("Invert(%v)", m), got, err, api.ErrZero)
	}
	for i := range api.MaxParts {
		m := ones(api.MaxParts)
		m[i][i] = 0
		got, err := rs.Invert(m)
		wantNoLists(t, fmt.Sprintf("ones but at %d", i), got, err, api.ErrZero)
	}
}

// RS2: an inverse's inverse is the matrix.
func TestInvertTwice(t *testing.T) {
	rnd := rand.New(rand.NewSource(11))
	tried := 0
	for range 500 {
		n := 1 + rnd.Intn(api.MaxParts)
		m := anyLists(rnd, n, n)
		if rows, err := rs.Invert(m); err == nil {
			tried++
			wantLists(t, fmt.Sprintf("Invert(Invert(%v))", m), inverted(t, rows), m)
		}
	}
	if tried < 400 {
		t.Errorf("%d have one: too few", tried)
	}
}

// RS2, RS4: any k rows of a code have an inverse, so that any k parts are enough.
func TestRowsHaveInverse(t *testing.T) {
	rnd := rand.New(rand.NewSource(12))
	eachCode(t, func(c *rs.Code, data, parity int) {
		for range 3 {
			numbers := rnd.Perm(data + parity)[:data]
			slices.Sort(numbers)
			rows := make([][]byte, data)
			for i, part := range numbers {
				rows[i] = rowOf(t, c, part)
			}
			wantLists(t, fmt.Sprintf("rows %v of %d and %d", numbers, data, parity), productOf(inverted(t, rows), rows), ones(data))
		}
	})
}
