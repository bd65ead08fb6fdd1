package rs_test

import (
	"bytes"
	"fmt"
	"math"
	"math/rand"
	"slices"
	"sync"
	"testing"

	"drydock/api"
	"drydock/rs"
)

// fill writes over bytes and the spare room behind them.
func fill(b []byte) {
	b = b[:cap(b)]
	for i := range b {
		b[i] = 'X'
	}
}

// roomy are the same lists in other memory, with spare room behind each and behind all; of an empty one, too.
func roomy(lists [][]byte) [][]byte {
	copied := make([][]byte, 0, len(lists)+3)
	for _, list := range lists {
		copied = append(copied, append(make([]byte, 0, len(list)+9), list...))
	}
	return copied
}

// whole is all the memory that lists have, spare room too, as one text each.
func whole(lists [][]byte) [][]byte {
	var all [][]byte
	for _, list := range lists[:cap(lists)] {
		all = append(all, bytes.Clone(list[:cap(list)]))
	}
	return all
}

// calls are all that answer lists, by their names: of parts, as many bytes each as there are parts of data, and of which some are lost.
func calls(c *rs.Code, there []bool) map[string]func(parts [][]byte) [][]byte {
	list := func(b []byte, _ error) [][]byte { return [][]byte{b} }
	lists := func(l [][]byte, _ error) [][]byte { return l }
	k := c.Data()
	return map[string]func(parts [][]byte) [][]byte{
		"Row":    func(parts [][]byte) [][]byte { return list(c.Row(k + c.Parity() - 1)) },
		"Encode": func(parts [][]byte) [][]byte { return lists(c.Encode(parts[:k])) },
		"Decode": func(parts [][]byte) [][]byte { return lists(c.Decode(parts, there)) },
		"Split":  func(parts [][]byte) [][]byte { return c.Split(parts[0]) },
		"Join":   func(parts [][]byte) [][]byte { return list(c.Join(parts, k*k)) },
		"begin":  func(parts [][]byte) [][]byte { return list(c.Join(parts, 1)) },
		"Invert": func(parts [][]byte) [][]byte { return lists(rs.Invert(parts[:k])) },
	}
}

// few are a code, parts of it, and which of them are there.
type few struct {
	c     *rs.Code
	parts [][]byte
	there []bool
}

// aFew are what the tests below go over; parts of data are a matrix that has an inverse.
func aFew(t *testing.T) []few {
	t.Helper()
	one, pair, three := [][]byte{{7}}, [][]byte{{7, 8}, {9, 10}}, [][]byte{{0, 1, 0}, {3, 4, 5}, {7, 8, 10}}
	return []few{
		{code(t, 1, 0), one, []bool{true}},
		{code(t, 1, 1), madeOf(one, 1), []bool{true, false}},
		{code(t, 1, 1), madeOf(one, 1), []bool{false, true}},
		{code(t, 2, 0), pair, []bool{true, true}},
		{code(t, 2, 1), madeOf(pair, 1), []bool{true, true, true}},
		{code(t, 3, 2), madeOf(three, 2), []bool{true, true, true, false, false}},
		{code(t, 3, 2), madeOf(three, 2), []bool{true, false, true, true, true}},
	}
}

// P6: of what the tests below go over all calls answer something, and the parts are answered again.
func TestAFew(t *testing.T) {
	for _, a := range aFew(t) {
		for what, call := range calls(a.c, a.there) {
			for i, list := range call(a.parts) {
				if len(list) == 0 {
					t.Errorf("%s of %d and %d: list %d is empty", what, a.c.Data(), a.c.Parity(), i)
				}
			}
		}
		wantLists(t, "Encode", encoded(t, a.c, a.parts[:a.c.Data()]), a.parts)
		wantLists(t, "Decode", decoded(t, a.c, a.parts, a.there), a.parts)
	}
}

// P6: every call ends and none panics, whatever it is given.
func TestTotal(t *testing.T) {
	numbers := []int{math.MinInt, math.MinInt32, -1, 0, 1, 2, 3, 5, 31, 32, 33, 256, math.MaxInt32, math.MaxInt}
	lists := [][][]byte{
		nil, {}, {nil}, {{}}, {{1}}, {{1}, {2}}, {{1}, {2, 3}}, {nil, {1}, {2}}, {{0}, {0}, {0}}, {{1, 2, 3}, {4, 5, 6}, {7, 8, 9}},
		ones(5), make([][]byte, 31), ones(32), ones(33), make([][]byte, 300),
	}
	choices := [][]bool{nil, {}, {true}, {false}, {true, true}, {false, true, true}, {true, true, true, true, true}, make([]bool, 32), make([]bool, 300)}
	codes := []*rs.Code{nil}
	for _, data := range numbers {
		for _, parity := range numbers {
			c, _ := rs.New(data, parity)
			codes = append(codes, c)
		}
	}
	for _, c := range codes {
		c.Data()
		c.Parity()
		for _, n := range numbers {
			c.Row(n)
		}
		for _, l := range lists {
			c.Encode(l)
			rs.Invert(l)
			for _, there := range choices {
				c.Decode(l, there)
			}
			for _, n := range numbers {
				c.Join(l, n)
			}
			c.Split(bytes.Join(l, nil))
		}
	}
}

// P6: what is handed in is neither changed, nor the spare room behind it, nor kept.
func TestArgumentsAlone(t *testing.T) {
	for _, a := range aFew(t) {
		for what, call := range calls(a.c, a.there) {
			parts, was := roomy(a.parts), slices.Clone(a.there)
			before := whole(parts)
			one := call(parts)
			want := roomy(one)
			if !same(whole(parts), before) || !slices.Equal(a.there, was) {
				t.Errorf("%s changed its argument: %v, there %v", what, whole(parts), a.there)
			}
			for _, part := range parts {
				fill(part)
			}
			if !same(one, want) {
				t.Errorf("%s keeps its argument: %v, was %v", what, one, want)
			}
			if again := call(roomy(a.parts)); !same(again, want) {
				t.Errorf("%s: %v, was %v", what, again, want)
			}
		}
	}
}

// P6: what is wrong is not changed either, where an error is told.
func TestWrongArgumentsAlone(t *testing.T) {
	c, there := code(t, 3, 2), []bool{true, false, true, true, true}
	for _, wrong := range [][][]byte{
		{{1, 2, 3}, {1, 2, 3}, {1, 2, 3}, {4, 5, 6}, {7, 8}}, {{0, 0, 1}, {0, 0, 2}, {0, 5, 3}, {4}, {}}, {{0, 1}, {3, 4, 5}, {1, 2}, nil, nil},
	} {
		for what, call := range calls(c, there) {
			parts := roomy(wrong)
			before := whole(parts)
			call(parts)
			if !same(whole(parts), before) {
				t.Errorf("%s changed its argument: %v, was %v", what, whole(parts), before)
			}
		}
	}
}

// P6: an answer is new memory, spare room too: no two lists of it share any, and no two answers, and none with what is handed in.
func TestAnswersAlone(t *testing.T) {
	for _, a := range aFew(t) {
		for what, call := range calls(a.c, a.there) {
			parts := roomy(a.parts)
			before := whole(parts)
			one, two := call(parts), call(parts)
			want := roomy(two)
			for i := range one {
				fill(one[i])
				if !same(one[i+1:], want[i+1:]) {
					t.Errorf("%s: list %d shares memory with those behind it: %v", what, i, one)
				}
			}
			if !same(two, want) {
				t.Errorf("%s: two answers share memory: %v", what, two)
			}
			for i := len(two) - 1; i >= 0; i-- {
				fill(two[i])
				if !same(two[:i], want[:i]) {
					t.Errorf("%s: list %d shares memory with those ahead of it: %v", what, i, two)
				}
			}
			if !same(whole(parts), before) {
				t.Errorf("%s: an answer shares the argument's memory: %v", what, whole(parts))
			}
		}
	}
}

// P6: an answer's lists are its own: when they are let go, what is answered next is as it was, and what was handed in, too.
func TestAnsweredListsOfLists(t *testing.T) {
	for _, a := range aFew(t) {
		before := roomy(a.parts)
		for what, call := range calls(a.c, a.there) {
			one := call(a.parts)
			want := roomy(one)
			clear(one[:cap(one)])
			if got := call(a.parts); !same(got, want) || !same(a.parts, before) {
				t.Errorf("%s: %v, was %v", what, got, want)
			}
		}
	}
}

// P6: one list handed in at many places is as many that are alike.
func TestOneListManyTimes(t *testing.T) {
	c := code(t, 3, 2)
	one := []byte{1, 2, 3}
	all := encoded(t, c, [][]byte{one, one, one})
	wantLists(t, "one list as three", all, madeOf([][]byte{{1, 2, 3}, {1, 2, 3}, {1, 2, 3}}, 2))
	fill(all[0])
	if all[1][0] != 1 || all[2][0] != 1 || one[0] != 1 {
		t.Errorf("the answer's lists are one: %v", all)
	}
	got := decoded(t, c, [][]byte{one, one, one, one, one}, choice(7, 5))
	wantLists(t, "one list as five", got, encoded(t, c, [][]byte{one, one, one}))
}

// P6: the same call answers the same, whatever was asked between, of this code or another one; and so does another code of as many parts.
func TestSameAgain(t *testing.T) {
	other := code(t, 2, 3)
	for _, a := range aFew(t) {
		another := calls(code(t, a.c.Data(), a.c.Parity()), a.there)
		for what, call := range calls(a.c, a.there) {
			want := roomy(call(a.parts))
			for _, c := range []*rs.Code{a.c, other} {
				c.Encode(a.parts[:1])
				c.Decode(a.parts, make([]bool, len(a.parts)))
				c.Decode(ones(5), choice(0b01110, 5))
				c.Row(4)
				c.Split([]byte("abc"))
				c.Join(a.parts, 1)
			}
			rs.Invert(ones(2))
			if got := call(a.parts); !same(got, want) {
				t.Errorf("%s: %v, was %v", what, got, want)
			}
			if got := another[what](a.parts); !same(got, want) {
				t.Errorf("%s of another code: %v, want %v", what, got, want)
			}
		}
	}
}

// P6: many may ask one code at one time: each is answered as alone.
func TestManyAsk(t *testing.T) {
	for round := range 20 {
		c := code(t, 4, 4)
		rnd := rand.New(rand.NewSource(int64(round)))
		data := anyLists(rnd, 4, 50)
		want := madeOf(data, 4)
		var got [8][][]byte
		var wait sync.WaitGroup
		for i := range got {
			wait.Go(func() {
				if all, err := c.Encode(data); err == nil {
					got[i], _ = c.Decode(all, choice(0xf0, 8))
				}
			})
		}
		wait.Wait()
		for i := range got {
			wantLists(t, fmt.Sprintf("asked by %d", i), got[i], want)
		}
	}
}

// P6: parts as long as a text may be are made, and made again.
func TestLongParts(t *testing.T) {
	rnd := rand.New(rand.NewSource(16))
	c := code(t, 3, 2)
	text := anyBytes(rnd, api.MaxBlob)
	all := encoded(t, c, c.Split(text))
	for j, part := range all[3:] {
		row := factors(3, 3+j)
		for _, at := range []int{0, 1, 255, 256, 65535, 65536, len(part) - 2, len(part) - 1} {
			if want := times(row[0], all[0][at]) ^ times(row[1], all[1][at]) ^ times(row[2], all[2][at]); part[at] != want {
				t.Errorf("part %d at %d: %d, want %d", 3+j, at, part[at], want)
			}
		}
	}
	there := []bool{false, true, false, true, true}
	wantJoin(t, c, decoded(t, c, without(rnd, all, there), there), text)
}
