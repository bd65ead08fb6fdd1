package rs_test

import (
	"bytes"
	"fmt"
	"math/bits"
	"math/rand"
	"slices"
	"testing"

	"drydock/api"
	"drydock/rs"
)

// decoded are all parts, made of those that are there.
func decoded(t *testing.T, c *rs.Code, parts [][]byte, there []bool) [][]byte {
	t.Helper()
	all, err := c.Decode(parts, there)
	wantErr(t, fmt.Sprintf("Decode of %d and %d, there %v", c.Data(), c.Parity(), there), err, 0)
	return all
}

// firstThere are the numbers of the parts that are there, ascending.
func firstThere(there []bool) []int {
	var numbers []int
	for i, is := range there {
		if is {
			numbers = append(numbers, i)
		}
	}
	return numbers
}

// without are parts of which some are lost, in whose places other bytes stand, or none.
func without(rnd *rand.Rand, all [][]byte, there []bool) [][]byte {
	parts := slices.Clone(all)
	for i := range parts {
		if !there[i] {
			parts[i] = anyBytes(rnd, rnd.Intn(len(parts[i])+3))
		}
	}
	return parts
}

// wantMended checks that a code makes all parts again of those that are there.
func wantMended(t *testing.T, rnd *rand.Rand, c *rs.Code, all [][]byte, there []bool) {
	t.Helper()
	what := fmt.Sprintf("%d and %d, there %v", c.Data(), c.Parity(), there)
	wantLists(t, what, decoded(t, c, without(rnd, all, there), there), all)
}

// choice is which of so many are there, by the bits of a number.
func choice(number, of int) []bool {
	there := make([]bool, of)
	for i := range there {
		there[i] = number>>i&1 == 1
	}
	return there
}

// RS4: of all codes of up to ten parts, whichever are lost: up to m of them are made again as they were, and of more it is told.
func TestWhicheverAreLost(t *testing.T) {
	rnd := rand.New(rand.NewSource(4))
	eachCode(t, func(c *rs.Code, data, parity int) {
		n := data + parity
		if n > 10 {
			return
		}
		all := madeOf(anyLists(rnd, data, 3), parity)
		for number := range 1 << n {
			there := choice(number, n)
			if bits.OnesCount(uint(number)) >= data {
				wantMended(t, rnd, c, all, there)
				continue
			}
			got, err := c.Decode(without(rnd, all, there), there)
			wantNoLists(t, fmt.Sprintf("%d and %d, there %v", data, parity, there), got, err, api.ErrLost)
		}
	})
}

// RS4: of all codes, the greatest too: none is lost, or m of them, the first, the last, or any.
func TestManyAreLost(t *testing.T) {
	rnd := rand.New(rand.NewSource(5))
	eachCode(t, func(c *rs.Code, data, parity int) {
		n := data + parity
		all := encoded(t, c, anyLists(rnd, data, 1+rnd.Intn(4)))
		none := 1<<n - 1
		for _, number := range []int{none, none << parity & none, none >> parity} {
			wantMended(t, rnd, c, all, choice(number, n))
		}
		for range 4 {
			there := make([]bool, n)
			for _, i := range rnd.Perm(n)[:data+rnd.Intn(parity+1)] {
				there[i] = true
			}
			wantMended(t, rnd, c, all, there)
		}
	})
}

// RS4: of all codes: m + 1 are lost, any, or all: it is told, and nothing is made.
func TestTooManyAreLost(t *testing.T) {
	rnd := rand.New(rand.NewSource(6))
	eachCode(t, func(c *rs.Code, data, parity int) {
		n := data + parity
		all := encoded(t, c, anyLists(rnd, data, 2))
		for _, left := range []int{0, data - 1, rnd.Intn(data)} {
			there := make([]bool, n)
			for _, i := range rnd.Perm(n)[:left] {
				there[i] = true
			}
			got, err := c.Decode(without(rnd, all, there), there)
			wantNoLists(t, fmt.Sprintf("%d and %d, there %v", data, parity, there), got, err, api.ErrLost)
		}
	})
}

// RS2, RS4: parts of no bytes are made again, too.
func TestNoBytes(t *testing.T) {
	for _, c := range []struct{ data, parity int }{{1, 0}, {1, 1}, {2, 1}, {3, 5}, {16, 16}} {
		n := c.data + c.parity
		there := choice((1<<n-1)<<c.parity, n)
		for i, all := range decoded(t, code(t, c.data, c.parity), make([][]byte, n), there) {
			if len(all) != 0 {
				t.Errorf("%d and %d: part %d of no bytes is %v", c.data, c.parity, i, all)
			}
		}
	}
}

// RS2: what is known is made: of parity alone, of data alone, and of both.
func TestDecode(t *testing.T) {
	c := code(t, 2, 1)
	want := [][]byte{{1, 0, 2, 2}, {0, 1, 0, 3}, {142, 244, 1, 0}}
	for _, there := range [][]bool{{true, true, true}, {true, true, false}, {true, false, true}, {false, true, true}} {
		parts := slices.Clone(want)
		for i := range parts {
			if !there[i] {
				parts[i] = nil
			}
		}
		wantLists(t, fmt.Sprintf("there %v", there), decoded(t, c, parts, there), want)
	}
	alone := decoded(t, code(t, 1, 2), [][]byte{nil, nil, {0, 142, 1, 2}}, []bool{false, false, true})
	wantLists(t, "of the last part alone", alone, [][]byte{{0, 1, 2, 4}, {0, 1, 2, 4}, {0, 142, 1, 2}})
	both := decoded(t, code(t, 2, 2), [][]byte{nil, nil, {142}, {244}}, []bool{false, false, true, true})
	wantLists(t, "of parity alone", both, [][]byte{{1}, {0}, {142}, {244}})
}

// RS2: of parts that are there beside the first k nothing is looked at: with other bytes they are as the first make them.
func TestMoreThanEnough(t *testing.T) {
	rnd := rand.New(rand.NewSource(7))
	eachCode(t, func(c *rs.Code, data, parity int) {
		if parity == 0 {
			return
		}
		all := encoded(t, c, anyLists(rnd, data, 3))
		there := make([]bool, data+parity)
		for _, i := range rnd.Perm(data + parity)[:data+1+rnd.Intn(parity)] {
			there[i] = true
		}
		parts := without(rnd, all, there)
		for _, i := range firstThere(there)[data:] {
			parts[i] = anyBytes(rnd, 3)
		}
		wantLists(t, fmt.Sprintf("%d and %d, there %v", data, parity, there), decoded(t, c, parts, there), all)
	})
}

// RS2: of the first k, each has its say, those of parity too: with another byte other parts are made.
func TestFirstHaveTheirSay(t *testing.T) {
	rnd := rand.New(rand.NewSource(8))
	c := code(t, 4, 3)
	all := encoded(t, c, anyLists(rnd, 4, 5))
	for number := range 1 << 7 {
		there := choice(number, 7)
		numbers := firstThere(there)
		if len(numbers) < 4 {
			continue
		}
		for _, i := range numbers[:4] {
			parts := without(rnd, all, there)
			parts[i] = bytes.Clone(parts[i])
			parts[i][2]++
			got := decoded(t, c, parts, there)
			if !bytes.Equal(got[i], parts[i]) {
				t.Errorf("there %v: part %d is %v, was handed in as %v", there, i, got[i], parts[i])
			}
			for j, part := range got {
				if part[0] != all[j][0] || part[4] != all[j][4] {
					t.Errorf("there %v: another byte in part %d changes others of part %d", there, i, j)
				}
			}
		}
	}
}

// RS2: any k parts make the same.
func TestAnyPartsMakeTheSame(t *testing.T) {
	rnd := rand.New(rand.NewSource(9))
	for _, c := range []struct{ data, parity int }{{1, 6}, {3, 4}, {4, 3}, {6, 1}, {7, 0}} {
		code := code(t, c.data, c.parity)
		all := encoded(t, code, anyLists(rnd, c.data, 4))
		made := 0
		for number := range 1 << 7 {
			if bits.OnesCount(uint(number)) == c.data {
				made++
				wantMended(t, rnd, code, all, choice(number, 7))
			}
		}
		if made == 0 {
			t.Errorf("%d and %d: nothing was made", c.data, c.parity)
		}
	}
}

// RS2: what is wrong with parts that are handed in, in the order in which it is told: how many, of one length or not, enough or not.
func TestDecodeErrors(t *testing.T) {
	one, two := []byte{1}, []byte{1, 2}
	yes, no := true, false
	for _, c := range []struct {
		data, parity int
		parts        [][]byte
		there        []bool
		want         api.Errno
	}{
		{2, 1, nil, nil, api.ErrArg},
		{1, 0, [][]byte{}, []bool{}, api.ErrArg},
		{2, 1, [][]byte{one, one}, []bool{yes, yes}, api.ErrArg},
		{2, 1, [][]byte{one, one}, []bool{yes, yes, no}, api.ErrArg},
		{2, 1, [][]byte{one, one, one}, []bool{yes, yes}, api.ErrArg},
		{2, 1, [][]byte{one, one, one}, nil, api.ErrArg},
		{2, 1, nil, []bool{yes, yes, yes}, api.ErrArg},
		{2, 1, [][]byte{one, one, one, one}, []bool{yes, yes, yes}, api.ErrArg},
		{2, 1, [][]byte{one, one, one}, []bool{yes, yes, yes, yes}, api.ErrArg},
		{2, 1, [][]byte{one, one, one, one}, []bool{yes, yes, yes, no}, api.ErrArg},
		{2, 0, [][]byte{one, one, one}, []bool{yes, yes, no}, api.ErrArg},
		{2, 1, [][]byte{one, two}, []bool{yes, yes}, api.ErrArg},       // of unlike lengths, too
		{2, 1, [][]byte{one, one, one}, []bool{no, no}, api.ErrArg},    // too few, too
		{2, 1, [][]byte{one, two}, []bool{no, no, no, no}, api.ErrArg}, // all of it
		{2, 1, [][]byte{one, two, nil}, []bool{yes, yes, no}, api.ErrLong},
		{2, 1, [][]byte{one, nil, two}, []bool{yes, no, yes}, api.ErrLong},
		{2, 1, [][]byte{nil, two, one}, []bool{no, yes, yes}, api.ErrLong},
		{2, 1, [][]byte{{}, one, nil}, []bool{yes, yes, no}, api.ErrLong},
		{2, 1, [][]byte{one, nil, one}, []bool{yes, yes, yes}, api.ErrLong},
		{2, 1, [][]byte{one, one, two}, []bool{yes, yes, yes}, api.ErrLong}, // though it is not among the first k
		{2, 3, [][]byte{one, nil, one, one, two}, []bool{yes, no, yes, yes, yes}, api.ErrLong},
		{3, 1, [][]byte{one, two, nil, nil}, []bool{yes, yes, no, no}, api.ErrLong}, // too few, too
		{2, 1, [][]byte{one, one, one}, []bool{no, no, no}, api.ErrLost},
		{2, 1, [][]byte{one, one, one}, []bool{no, yes, no}, api.ErrLost},
		{2, 1, [][]byte{one, two, nil}, []bool{no, no, yes}, api.ErrLost},
		{2, 0, [][]byte{one, two}, []bool{yes, no}, api.ErrLost},
		{1, 0, [][]byte{one}, []bool{no}, api.ErrLost},
		{1, 2, [][]byte{one, two, nil}, []bool{no, no, no}, api.ErrLost},
		{3, 2, [][]byte{one, nil, nil, nil, one}, []bool{yes, no, no, no, yes}, api.ErrLost},
	} {
		got, err := code(t, c.data, c.parity).Decode(c.parts, c.there)
		wantNoLists(t, fmt.Sprintf("%d and %d, of %v, there %v", c.data, c.parity, c.parts, c.there), got, err, c.want)
	}
}

// RS2: parts that are not there may be of any length: they are not looked at.
func TestLostPartsOfAnyLength(t *testing.T) {
	c := code(t, 2, 2)
	data := [][]byte{{1, 2, 3}, {4, 5, 6}}
	all := encoded(t, c, data)
	for _, lost := range [][]byte{nil, {}, {9}, {9, 9, 9}, make([]byte, 1000)} {
		got := decoded(t, c, [][]byte{lost, all[1], nil, all[3]}, []bool{false, true, false, true})
		wantLists(t, fmt.Sprintf("lost ones of %d bytes", len(lost)), got, all)
	}
}
