package rs_test

import (
	"bytes"
	"fmt"
	"math"
	"math/rand"
	"testing"

	"drydock/api"
	"drydock/rs"
)

// wantJoin checks that the first bytes of parts are a text.
func wantJoin(t *testing.T, c *rs.Code, parts [][]byte, want []byte) {
	t.Helper()
	got, err := c.Join(parts, len(want))
	what := fmt.Sprintf("Join(%v, %d) of %d", parts, len(want), c.Data())
	if wantErr(t, what, err, 0); !bytes.Equal(got, want) {
		t.Fatalf("%s: %v, want %v", what, got, want)
	}
}

// RS3: texts split as it is known: of no bytes, of fewer than parts, of as many, and of one more; parity has no say.
func TestSplit(t *testing.T) {
	for _, c := range []struct {
		text string
		data int
		want []string
	}{
		{"", 1, []string{""}},
		{"", 3, []string{"", "", ""}},
		{"abc", 1, []string{"abc"}},
		{"a", 3, []string{"a", "\x00", "\x00"}},
		{"ab", 3, []string{"a", "b", "\x00"}},
		{"abc", 3, []string{"a", "b", "c"}},
		{"abcd", 3, []string{"ab", "cd", "\x00\x00"}},
		{"abcde", 3, []string{"ab", "cd", "e\x00"}},
		{"abcdef", 3, []string{"ab", "cd", "ef"}},
		{"abcdefg", 3, []string{"abc", "def", "g\x00\x00"}},
		{"abcde", 4, []string{"ab", "cd", "e\x00", "\x00\x00"}},
		{"a\x00\x00", 2, []string{"a\x00", "\x00\x00"}},
		{"abc", 2, []string{"ab", "c\x00"}},
	} {
		var want [][]byte
		for _, part := range c.want {
			want = append(want, []byte(part))
		}
		for _, parity := range []int{0, 1, 9} {
			what := fmt.Sprintf("Split(%q) of %d and %d", c.text, c.data, parity)
			wantLists(t, what, code(t, c.data, parity).Split([]byte(c.text)), want)
		}
	}
}

// RS3: texts of all short lengths, and of greater ones, in any number of parts: of one length, the least that is enough, one behind the other the text and noughts; and joined again.
func TestSplitAndJoin(t *testing.T) {
	rnd := rand.New(rand.NewSource(13))
	lengths := []int{1000, 1023, 1024, 1025, 1 << 16, 1<<16 - 1, 1<<16 + 1}
	for n := range 70 {
		lengths = append(lengths, n)
	}
	for data := 1; data <= api.MaxParts; data++ {
		c := code(t, data, 0)
		for _, length := range lengths {
			text := anyBytes(rnd, length)
			parts := c.Split(text)
			what := fmt.Sprintf("%d bytes in %d parts", length, data)
			if len(parts) != data {
				t.Fatalf("%s: %d", what, len(parts))
			}
			size := len(parts[0])
			if size*data < length || (size > 0 && (size-1)*data >= length) {
				t.Errorf("%s: of %d bytes, which is not the least that is enough", what, size)
			}
			for i, part := range parts {
				if len(part) != size {
					t.Errorf("%s: part %d has %d bytes, the first one %d", what, i, len(part), size)
				}
			}
			whole := bytes.Join(parts, nil)
			if !bytes.Equal(whole, append(bytes.Clone(text), make([]byte, size*data-length)...)) {
				t.Errorf("%s: they are not the text and noughts", what)
			}
			wantJoin(t, c, parts, text)
		}
	}
}

// RS3: the first bytes of the first k parts, of any lengths, from none up to all; of parts behind them nothing is looked at.
func TestJoin(t *testing.T) {
	rnd := rand.New(rand.NewSource(14))
	for range 300 {
		data := 1 + rnd.Intn(6)
		c := code(t, data, rnd.Intn(4))
		parts := make([][]byte, data+rnd.Intn(4))
		for i := range parts {
			parts[i] = anyBytes(rnd, rnd.Intn(5))
		}
		whole := bytes.Join(parts[:data], nil)
		for n := range len(whole) + 1 {
			wantJoin(t, c, parts, whole[:n])
		}
		for _, n := range []int{len(whole) + 1, len(whole) + 2, math.MaxInt32, math.MaxInt} {
			b, err := c.Join(parts, n)
			if wantErr(t, fmt.Sprintf("Join(%v, %d) of %d", parts, n, data), err, api.ErrLong); len(b) != 0 {
				t.Errorf("Join(%v, %d): %v beside an error", parts, n, b)
			}
		}
	}
}

// RS3: what is wrong with parts that are joined: fewer than k, or n below 0; it is told ahead of that there are not so many bytes.
func TestJoinErrors(t *testing.T) {
	for _, c := range []struct {
		data  int
		parts [][]byte
		n     int
		want  api.Errno
	}{
		{1, nil, 0, api.ErrArg},
		{1, [][]byte{}, 1, api.ErrArg},
		{2, [][]byte{{1, 2, 3}}, 0, api.ErrArg},
		{2, [][]byte{{1, 2, 3}}, 2, api.ErrArg},
		{2, [][]byte{{1, 2, 3}}, 4, api.ErrArg},
		{32, make([][]byte, 31), 0, api.ErrArg},
		{2, [][]byte{{1}, {2}}, -1, api.ErrArg},
		{2, [][]byte{{}, {}}, -1, api.ErrArg},
		{2, [][]byte{{1}, {2}}, math.MinInt, api.ErrArg},
		{2, [][]byte{{1}}, -1, api.ErrArg},
		{1, [][]byte{{}}, 1, api.ErrLong},
		{2, [][]byte{nil, nil}, 1, api.ErrLong},
		{2, [][]byte{{1}, {2}}, 3, api.ErrLong},
		{2, [][]byte{{1}, {2}, {3}}, 3, api.ErrLong}, // of the third one nothing is counted
		{1, [][]byte{{1}, {2}, {3}}, math.MaxInt, api.ErrLong},
	} {
		b, err := code(t, c.data, 0).Join(c.parts, c.n)
		what := fmt.Sprintf("Join(%v, %d) of %d", c.parts, c.n, c.data)
		if wantErr(t, what, err, c.want); len(b) != 0 {
			t.Errorf("%s: %v beside an error", what, b)
		}
	}
}

// RS3: n of 0 is no bytes; n as long as all of them is all, noughts too.
func TestJoinNoneAndAll(t *testing.T) {
	c := code(t, 3, 2)
	parts := encoded(t, c, c.Split([]byte("abcd")))
	for n, want := range map[int]string{0: "", 4: "abcd", 5: "abcd\x00", 6: "abcd\x00\x00"} {
		wantJoin(t, c, parts, []byte(want)[:n])
	}
	wantJoin(t, c, make([][]byte, 3), nil)
}

// RS1 to RS4: a text is the same again, whichever parts of it were lost.
func TestTextThereAndBack(t *testing.T) {
	rnd := rand.New(rand.NewSource(15))
	for range 300 {
		data := 1 + rnd.Intn(api.MaxParts)
		parity := rnd.Intn(api.MaxParts - data + 1)
		c := code(t, data, parity)
		text := anyBytes(rnd, rnd.Intn(300))
		all := encoded(t, c, c.Split(text))
		there := make([]bool, data+parity)
		for _, i := range rnd.Perm(data + parity)[:data] {
			there[i] = true
		}
		wantJoin(t, c, decoded(t, c, without(rnd, all, there), there), text)
	}
}

// RS3: a nil one: ErrArg, nothing, 0, whatever is asked.
func TestNilCode(t *testing.T) {
	var c *rs.Code
	if c.Data() != 0 || c.Parity() != 0 {
		t.Errorf("Data %d, Parity %d", c.Data(), c.Parity())
	}
	for _, part := range []int{math.MinInt, -1, 0, 1, math.MaxInt} {
		row, err := c.Row(part)
		if wantErr(t, fmt.Sprintf("nil: Row(%d)", part), err, api.ErrArg); len(row) != 0 {
			t.Errorf("nil: Row(%d): %v", part, row)
		}
	}
	for _, parts := range [][][]byte{nil, {}, {{}}, {{1}}, {{1}, {1, 2}}} {
		what := fmt.Sprintf("nil, of %v", parts)
		all, err := c.Encode(parts)
		wantNoLists(t, what+": Encode", all, err, api.ErrArg)
		for _, there := range [][]bool{nil, {}, {true}, {false, true}} {
			all, err = c.Decode(parts, there)
			wantNoLists(t, what+": Decode", all, err, api.ErrArg)
		}
		for _, n := range []int{-1, 0, 1, 9} {
			b, err := c.Join(parts, n)
			if wantErr(t, what+": Join", err, api.ErrArg); len(b) != 0 {
				t.Errorf("%s: Join: %v", what, b)
			}
		}
	}
	for _, text := range []string{"", "a", "abc"} {
		if parts := c.Split([]byte(text)); len(parts) != 0 {
			t.Errorf("nil: Split(%q): %v", text, parts)
		}
	}
}
