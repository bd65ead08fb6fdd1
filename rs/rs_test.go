package rs_test

import (
	"bytes"
	"errors"
	"fmt"
	"math"
	"slices"
	"testing"

	"drydock/api"
	"drydock/rs"
)

// The calls as the chapter lists them.
var (
	_ func(data, parity int) (*rs.Code, error)                         = rs.New
	_ func(c *rs.Code) int                                             = (*rs.Code).Data
	_ func(c *rs.Code) int                                             = (*rs.Code).Parity
	_ func(c *rs.Code, part int) ([]byte, error)                       = (*rs.Code).Row
	_ func(c *rs.Code, data [][]byte) ([][]byte, error)                = (*rs.Code).Encode
	_ func(c *rs.Code, parts [][]byte, there []bool) ([][]byte, error) = (*rs.Code).Decode
	_ func(c *rs.Code, b []byte) [][]byte                              = (*rs.Code).Split
	_ func(c *rs.Code, parts [][]byte, n int) ([]byte, error)          = (*rs.Code).Join
	_ func(m [][]byte) ([][]byte, error)                               = rs.Invert
)

// wantErr checks that an error is that number, found as the document asks; 0: none.
func wantErr(t *testing.T, what string, err error, want api.Errno) {
	t.Helper()
	if want == 0 {
		if err != nil {
			t.Fatalf("%s: %v, want no error", what, err)
		}
		return
	}
	var got api.Errno
	if !errors.As(err, &got) || got != want {
		t.Errorf("%s: %v, want %v", what, err, want)
	}
}

// wantNoLists checks that a call answers an error, and nothing beside it.
func wantNoLists(t *testing.T, what string, got [][]byte, err error, want api.Errno) {
	t.Helper()
	if wantErr(t, what, err, want); len(got) != 0 {
		t.Errorf("%s: %v beside an error", what, got)
	}
}

// wantLists checks that lists are others, number by number.
func wantLists(t *testing.T, what string, got, want [][]byte) {
	t.Helper()
	if !same(got, want) {
		t.Fatalf("%s: %v, want %v", what, got, want)
	}
}

// same tells whether lists are others.
func same(a, b [][]byte) bool { return slices.EqualFunc(a, b, bytes.Equal) }

// code is one that can be.
func code(t *testing.T, data, parity int) *rs.Code {
	t.Helper()
	c, err := rs.New(data, parity)
	if wantErr(t, fmt.Sprintf("New(%d, %d)", data, parity), err, 0); c == nil {
		t.Fatalf("New(%d, %d): nil", data, parity)
	}
	return c
}

// encoded are all parts that parts of data make.
func encoded(t *testing.T, c *rs.Code, data [][]byte) [][]byte {
	t.Helper()
	all, err := c.Encode(data)
	wantErr(t, "Encode", err, 0)
	return all
}

// rowOf is that of a part that there is.
func rowOf(t *testing.T, c *rs.Code, part int) []byte {
	t.Helper()
	row, err := c.Row(part)
	wantErr(t, fmt.Sprintf("Row(%d) of %d and %d", part, c.Data(), c.Parity()), err, 0)
	return row
}

// eachCode goes over all codes that can be.
func eachCode(t *testing.T, visit func(c *rs.Code, data, parity int)) {
	t.Helper()
	for data := 1; data <= api.MaxParts; data++ {
		for parity := 0; data+parity <= api.MaxParts; parity++ {
			visit(code(t, data, parity), data, parity)
		}
	}
}

// RS1: each code that can be tells how many parts it has.
func TestNew(t *testing.T) {
	codes := 0
	eachCode(t, func(c *rs.Code, data, parity int) {
		codes++
		if c.Data() != data || c.Parity() != parity {
			t.Errorf("New(%d, %d): %d, %d", data, parity, c.Data(), c.Parity())
		}
	})
	if codes != 528 {
		t.Errorf("%d codes", codes)
	}
}

// RS1: no part of data, parts below 0, and more together than MaxParts: there is no such code.
func TestNoSuchCode(t *testing.T) {
	for _, c := range []struct{ data, parity int }{
		{0, 0}, {0, 1}, {0, 32}, {-1, 0}, {-1, 2}, {-1, 33}, {math.MinInt, 1}, {math.MinInt, 0}, {math.MinInt, math.MinInt},
		{1, -1}, {2, -1}, {33, -1}, {40, -9}, {1, math.MinInt}, {math.MaxInt, math.MinInt}, {math.MaxInt, -1},
		{33, 0}, {32, 1}, {1, 32}, {17, 16}, {16, 17}, {2, 31}, {31, 2}, {256, 0}, {1, 256},
		{math.MaxInt, 0}, {math.MaxInt, 1}, {1, math.MaxInt}, {2, math.MaxInt}, {math.MaxInt, math.MaxInt}, {math.MinInt, math.MaxInt},
		{math.MaxInt32, math.MaxInt32}, {1 << 62, 1 << 62}, {1<<63 - 32, 64}, {1 << 32, 1}, {1, 1 << 32}, {math.MaxInt - 30, 33},
	} {
		got, err := rs.New(c.data, c.parity)
		if wantErr(t, fmt.Sprintf("New(%d, %d)", c.data, c.parity), err, api.ErrArg); got != nil {
			t.Errorf("New(%d, %d): %v beside an error", c.data, c.parity, got)
		}
	}
}

// RS1: rows that are known, the chapter's example among them.
func TestRow(t *testing.T) {
	for _, c := range []struct {
		data, parity, part int
		want               []byte
	}{
		{2, 1, 0, []byte{1, 0}},
		{2, 1, 1, []byte{0, 1}},
		{2, 1, 2, []byte{142, 244}},
		{1, 0, 0, []byte{1}},
		{1, 2, 0, []byte{1}},
		{1, 2, 1, []byte{1}},
		{1, 2, 2, []byte{142}},
		{3, 2, 1, []byte{0, 1, 0}},
		{3, 2, 3, []byte{244, 142, 1}},
		{3, 2, 4, []byte{71, 167, 122}},
		{4, 1, 3, []byte{0, 0, 0, 1}},
		{4, 4, 7, []byte{186, 122, 167, 71}},
	} {
		if got := rowOf(t, code(t, c.data, c.parity), c.part); !bytes.Equal(got, c.want) {
			t.Errorf("Row(%d) of %d and %d: %v, want %v", c.part, c.data, c.parity, got, c.want)
		}
	}
}

// RS1: there is no part below 0, and none from k + m on.
func TestNoSuchRow(t *testing.T) {
	eachCode(t, func(c *rs.Code, data, parity int) {
		n := data + parity
		for _, part := range []int{-1, -2, -n, -256, math.MinInt, n, n + 1, 32, 256, n + 256, 1 << 32, math.MaxInt32, math.MaxInt} {
			row, err := c.Row(part)
			if wantErr(t, fmt.Sprintf("Row(%d) of %d and %d", part, data, parity), err, api.ErrArg); len(row) != 0 {
				t.Errorf("Row(%d) of %d and %d: %v beside an error", part, data, parity, row)
			}
		}
	})
}

// RS1: parts that are known: of one part of data, with no parity, and of no bytes, too.
func TestEncode(t *testing.T) {
	for _, c := range []struct {
		parity     int
		data, want [][]byte
	}{
		{0, [][]byte{{7, 8, 9}}, [][]byte{{7, 8, 9}}},
		{1, [][]byte{{7, 8, 9}}, [][]byte{{7, 8, 9}, {7, 8, 9}}},
		{2, [][]byte{{0, 1, 2, 4}}, [][]byte{{0, 1, 2, 4}, {0, 1, 2, 4}, {0, 142, 1, 2}}},
		{0, [][]byte{{1, 2}, {3, 4}}, [][]byte{{1, 2}, {3, 4}}},
		{1, [][]byte{{1, 0, 2, 2}, {0, 1, 0, 3}}, [][]byte{{1, 0, 2, 2}, {0, 1, 0, 3}, {142, 244, 1, 0}}},
		{1, [][]byte{{1, 0, 0}, {0, 1, 0}, {0, 0, 1}}, [][]byte{{1, 0, 0}, {0, 1, 0}, {0, 0, 1}, {244, 142, 1}}},
		{2, [][]byte{{1, 0}, {0, 1}, {1, 0}}, [][]byte{{1, 0}, {0, 1}, {1, 0}, {245, 142}, {61, 167}}},
		{0, [][]byte{{}}, [][]byte{{}}},
		{1, [][]byte{nil}, [][]byte{{}, {}}},
		{2, [][]byte{nil, {}, nil}, [][]byte{{}, {}, {}, {}, {}}},
	} {
		what := fmt.Sprintf("%d and %d, of %v", len(c.data), c.parity, c.data)
		wantLists(t, what, encoded(t, code(t, len(c.data), c.parity), c.data), c.want)
	}
}

// RS1: of too few or too many parts nothing is made, and of such as are not of one length neither; that they are too few or too many is told first.
func TestEncodeErrors(t *testing.T) {
	for _, c := range []struct {
		data, parity int
		parts        [][]byte
		want         api.Errno
	}{
		{1, 0, nil, api.ErrArg},
		{1, 1, [][]byte{}, api.ErrArg},
		{1, 1, [][]byte{{1}, {2}}, api.ErrArg},
		{2, 1, [][]byte{{1}}, api.ErrArg},
		{2, 1, [][]byte{{1}, {2}, {3}}, api.ErrArg},
		{2, 0, [][]byte{{1}, {2}, {3}}, api.ErrArg},
		{3, 1, [][]byte{{1}, {2, 3}}, api.ErrArg},
		{2, 2, [][]byte{{1}, {2}, {3, 4}, nil}, api.ErrArg},
		{2, 1, [][]byte{{1}, {2, 3}}, api.ErrLong},
		{2, 1, [][]byte{{1, 2}, {3}}, api.ErrLong},
		{2, 0, [][]byte{{1}, {}}, api.ErrLong},
		{2, 0, [][]byte{nil, {1}}, api.ErrLong},
		{3, 1, [][]byte{{1}, {2}, {3, 4}}, api.ErrLong},
		{3, 1, [][]byte{{1}, {2, 3}, {4}}, api.ErrLong},
		{3, 1, [][]byte{{1}, {2, 3}, {4, 5}}, api.ErrLong},
		{4, 1, [][]byte{{1}, {2}, {}, {3}}, api.ErrLong},
	} {
		got, err := code(t, c.data, c.parity).Encode(c.parts)
		wantNoLists(t, fmt.Sprintf("%d and %d, of %v", c.data, c.parity, c.parts), got, err, c.want)
	}
}
