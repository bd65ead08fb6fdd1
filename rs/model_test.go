package rs_test

import (
	"bytes"
	"fmt"
	"math/rand"
	"testing"

	"drydock/api"
	"drydock/rs"
)

// times is the product of two numbers in the field, bit by bit.
func times(a, b byte) byte {
	var sum byte
	for ; b > 0; b /= 2 {
		if b%2 == 1 {
			sum ^= a
		}
		high := a >> 7
		a = a<<1 ^ high*0x1d
	}
	return sum
}

// counterpart is the number whose product with another one is 1, found by trying; 0: there is none.
func counterpart(a byte) byte {
	for b := range 256 {
		if times(a, byte(b)) == 1 {
			return byte(b)
		}
	}
	return 0
}

// factors are the row of a part, as the chapter tells it.
func factors(data, part int) []byte {
	row := make([]byte, data)
	for j := range row {
		switch {
		case part >= data:
			row[j] = counterpart(byte(part ^ j))
		case part == j:
			row[j] = 1
		}
	}
	return row
}

// madeOf are all parts of data and parity, byte by byte, as the chapter tells them.
func madeOf(data [][]byte, parity int) [][]byte {
	all := make([][]byte, len(data)+parity)
	for part := range all {
		row := factors(len(data), part)
		all[part] = make([]byte, len(data[0]))
		for at := range all[part] {
			for j := range data {
				all[part][at] ^= times(row[j], data[j][at])
			}
		}
	}
	return all
}

// anyBytes are so many, picked by rnd.
func anyBytes(rnd *rand.Rand, size int) []byte {
	b := make([]byte, size)
	rnd.Read(b)
	return b
}

// anyLists are so many, each of so many bytes.
func anyLists(rnd *rand.Rand, count, size int) [][]byte {
	lists := make([][]byte, count)
	for i := range lists {
		lists[i] = anyBytes(rnd, size)
	}
	return lists
}

// RS1: all rows of all codes are as the model tells them.
func TestRowsAsModel(t *testing.T) {
	eachCode(t, func(c *rs.Code, data, parity int) {
		for part := range data + parity {
			if got, want := rowOf(t, c, part), factors(data, part); !bytes.Equal(got, want) {
				t.Errorf("Row(%d) of %d and %d: %v, want %v", part, data, parity, got, want)
			}
		}
	})
}

// RS1: all parts, of all codes, as the model tells them.
func TestEncodeAsModel(t *testing.T) {
	rnd := rand.New(rand.NewSource(1))
	eachCode(t, func(c *rs.Code, data, parity int) {
		for size := range 3 {
			parts := anyLists(rnd, data, size)
			what := fmt.Sprintf("%d and %d, of %v", data, parity, parts)
			wantLists(t, what, encoded(t, c, parts), madeOf(parts, parity))
		}
	})
}

// RS1: each byte of each part of data is in each part of parity, with each number, at its own place alone.
func TestEachNumberInParity(t *testing.T) {
	for _, c := range []struct{ data, parity int }{{1, 1}, {1, 31}, {2, 1}, {5, 3}, {16, 16}, {31, 1}} {
		for j := range c.data {
			parts := make([][]byte, c.data)
			for i := range parts {
				parts[i] = make([]byte, 256)
			}
			for n := range 256 {
				parts[j][n] = byte(n)
			}
			what := fmt.Sprintf("%d and %d, all numbers in part %d", c.data, c.parity, j)
			wantLists(t, what, encoded(t, code(t, c.data, c.parity), parts), madeOf(parts, c.parity))
		}
	}
}

// RS2: whatever bytes the first parts that are there have, all parts are the one choice that has them, and the others have no say.
func TestDecodeAsModel(t *testing.T) {
	rnd := rand.New(rand.NewSource(2))
	eachCode(t, func(c *rs.Code, data, parity int) {
		for range 6 {
			there := make([]bool, data+parity)
			for _, i := range rnd.Perm(data + parity)[:data+rnd.Intn(parity+1)] {
				there[i] = true
			}
			parts := anyLists(rnd, data+parity, 1+rnd.Intn(3))
			all := decoded(t, c, parts, there)
			what := fmt.Sprintf("%d and %d, of %v, there %v", data, parity, parts, there)
			wantLists(t, what, all, madeOf(all[:data], parity))
			for _, i := range firstThere(there)[:data] {
				if !bytes.Equal(all[i], parts[i]) {
					t.Fatalf("%s: part %d is %v", what, i, all[i])
				}
			}
		}
	})
}

// productOf are rows times rows of numbers, as the model tells it.
func productOf(a, b [][]byte) [][]byte {
	rows := make([][]byte, len(a))
	for i := range a {
		rows[i] = make([]byte, len(b[0]))
		for j := range b[0] {
			for k := range b {
				rows[i][j] ^= times(a[i][k], b[k][j])
			}
		}
	}
	return rows
}

// ones are so many rows that have 1 at their own places, and 0 elsewhere.
func ones(n int) [][]byte {
	rows := make([][]byte, n)
	for i := range rows {
		rows[i] = make([]byte, n)
		rows[i][i] = 1
	}
	return rows
}

// RS2: a matrix and its inverse make ones, either way; and one of which a row is the sum of others has none. Noughts stand in many of them.
func TestInvertAsModel(t *testing.T) {
	rnd := rand.New(rand.NewSource(3))
	none, some := 0, 0
	for range 3000 {
		n := 1 + rnd.Intn(7)
		if rnd.Intn(50) == 0 {
			n = 1 + rnd.Intn(api.MaxParts)
		}
		m := anyLists(rnd, n, n)
		for range rnd.Intn(n*n + 1) {
			m[rnd.Intn(n)][rnd.Intn(n)] = byte(rnd.Intn(2))
		}
		got, err := rs.Invert(m)
		what := fmt.Sprintf("Invert(%v)", m)
		if rank(m) < n {
			none++
			wantNoLists(t, what, got, err, api.ErrZero)
			continue
		}
		some++
		wantErr(t, what, err, 0)
		wantLists(t, what+" times it", productOf(got, m), ones(n))
		wantLists(t, "it times "+what, productOf(m, got), ones(n))
	}
	if none < 100 || some < 1000 {
		t.Errorf("%d have none, %d have one: too few", none, some)
	}
}

// rank is how many rows are not sums of others, by taking a row away from those behind it.
func rank(m [][]byte) int {
	var left [][]byte
	for _, row := range m {
		left = append(left, bytes.Clone(row))
	}
	found := 0
	for column := range m {
		for i, row := range left {
			if row[column] == 0 {
				continue
			}
			left = append(left[:i:i], left[i+1:]...)
			for _, other := range left {
				factor := times(other[column], counterpart(row[column]))
				for j := range other {
					other[j] ^= times(factor, row[j])
				}
			}
			found++
			break
		}
	}
	return found
}

// RS2: all matrices of one number, and many of four, as the model tells them.
func TestSmallInverses(t *testing.T) {
	for a := range 256 {
		got, err := rs.Invert([][]byte{{byte(a)}})
		if a == 0 {
			wantNoLists(t, "Invert of 0", got, err, api.ErrZero)
			continue
		}
		wantErr(t, fmt.Sprintf("Invert of %d", a), err, 0)
		wantLists(t, fmt.Sprintf("Invert of %d", a), got, [][]byte{{counterpart(byte(a))}})
	}
	few := []byte{0, 1, 2, 3, 142, 255}
	for _, a := range few {
		for _, b := range few {
			for _, c := range few {
				for _, d := range few {
					wantPair(t, a, b, c, d)
				}
			}
		}
	}
}

// wantPair checks the inverse of two rows, a b and c d, by their determinant.
func wantPair(t *testing.T, a, b, c, d byte) {
	t.Helper()
	got, err := rs.Invert([][]byte{{a, b}, {c, d}})
	what := fmt.Sprintf("Invert of %d %d, %d %d", a, b, c, d)
	part := counterpart(times(a, d) ^ times(b, c))
	if part == 0 {
		wantNoLists(t, what, got, err, api.ErrZero)
		return
	}
	wantErr(t, what, err, 0)
	wantLists(t, what, got, [][]byte{{times(d, part), times(b, part)}, {times(c, part), times(a, part)}})
}
