package pack_test

import (
	"bytes"
	"math"
	"strings"
	"testing"

	"drydock/api"
	"drydock/pack"
)

// The ways to take a thing off, with what it answers told as one kind.
func takeUint(most uint64) func(*pack.Reader) any {
	return func(r *pack.Reader) any { return r.Uint(most) }
}
func takeCount(most int) func(*pack.Reader) any {
	return func(r *pack.Reader) any { return r.Count(most) }
}
func takeText(most int) func(*pack.Reader) any {
	return func(r *pack.Reader) any { return r.Text(most) }
}
func takeBytes(most int) func(*pack.Reader) any {
	return func(r *pack.Reader) any { return string(r.Bytes(most)) }
}
func takeInt(r *pack.Reader) any   { return r.Int() }
func takeBool(r *pack.Reader) any  { return r.Bool() }
func takePrint(r *pack.Reader) any { return r.Print() }

// taking is one thing taken off bytes, and what is to come of it.
type taking struct {
	b    string
	take func(*pack.Reader) any
	want any
	err  api.Errno
	left int
}

// check does it to bytes of their own.
func (c taking) check(t *testing.T) {
	t.Helper()
	r := pack.Read([]byte(c.b))
	if r.Left() != len(c.b) || r.Err() != nil {
		t.Errorf("% x: a new reader: Left %d, Err %v", c.b, r.Left(), r.Err())
	}
	if got := c.take(r); got != c.want {
		t.Errorf("% x: %#v, want %#v", c.b, got, c.want)
	}
	wantErr(t, "Err", r.Err(), c.err)
	if r.Left() != c.left {
		t.Errorf("% x: Left %d, want %d", c.b, r.Left(), c.left)
	}
	switch {
	case c.err != 0:
		wantErr(t, "Done behind an error", r.Done(), c.err)
		wantStuck(t, r, c.err, c.left)
	case c.left > 0:
		wantErr(t, "Done ahead of the end", r.Done(), api.ErrForm)
	default:
		wantErr(t, "Done at the end", r.Done(), 0)
	}
	if t.Failed() {
		t.Logf("bytes: % x", c.b)
	}
}

// wantStuck checks that a reader has an error for good: nothing is taken off any more, and no other error comes.
func wantStuck(t *testing.T, r *pack.Reader, err api.Errno, left int) {
	t.Helper()
	for _, most := range []int{math.MinInt, -1, 0, 1, math.MaxInt} {
		if n := r.Uint(uint64(most)); n != 0 {
			t.Errorf("Uint behind an error: %d", n)
		}
		if n := r.Int(); n != 0 {
			t.Errorf("Int behind an error: %d", n)
		}
		if n := r.Count(most); n != 0 {
			t.Errorf("Count behind an error: %d", n)
		}
		if r.Bool() {
			t.Error("Bool behind an error: true")
		}
		if s := r.Text(most); s != "" {
			t.Errorf("Text behind an error: %q", s)
		}
		if b := r.Bytes(most); len(b) != 0 {
			t.Errorf("Bytes behind an error: %q", b)
		}
		if h := r.Print(); h != (api.Print{}) {
			t.Errorf("Print behind an error: %x", h)
		}
		wantErr(t, "Err for good", r.Err(), err)
		wantErr(t, "Done for good", r.Done(), err)
		if r.Left() != left {
			t.Errorf("Left behind an error: %d, want %d", r.Left(), left)
		}
	}
}

// PK2: numbers at the edges of the form, with bounds at, above and below them, and with bytes behind.
func TestReadUint(t *testing.T) {
	for _, c := range spelt {
		taking{c.b, takeUint(math.MaxUint64), c.n, 0, 0}.check(t)
		taking{c.b, takeUint(c.n), c.n, 0, 0}.check(t)
		taking{c.b + "\xff\xff", takeUint(c.n), c.n, 0, 2}.check(t)
		if c.n > 0 {
			taking{c.b, takeUint(c.n - 1), uint64(0), api.ErrRange, len(c.b)}.check(t)
			taking{c.b + "x", takeUint(0), uint64(0), api.ErrRange, len(c.b) + 1}.check(t)
		}
	}
}

// PK2: a number ends ahead of its end, wherever it is cut, whatever else is wrong with it.
func TestReadUintEnd(t *testing.T) {
	for _, c := range spelt {
		for cut := range len(c.b) {
			taking{c.b[:cut], takeUint(0), uint64(0), api.ErrEnd, cut}.check(t)
			taking{c.b[:cut], takeUint(math.MaxUint64), uint64(0), api.ErrEnd, cut}.check(t)
		}
	}
	for k, first := range []byte{0x80, 0xc0, 0xe0, 0xf0, 0xf8, 0xfc, 0xfe, 0xff} {
		b := string([]byte{first}) + strings.Repeat("\x00", k) // not its form either, but that comes behind
		taking{b, takeUint(0), uint64(0), api.ErrEnd, len(b)}.check(t)
	}
}

// PK2: of each count of bytes the greatest number that one byte less would hold has not its form, and the next one has.
func TestReadUintForm(t *testing.T) {
	for _, c := range []struct{ less, first string }{
		{"\x80\x7f", "\x80\x80"},
		{"\xc0\x3f\xff", "\xc0\x40\x00"},
		{"\xe0\x1f\xff\xff", "\xe0\x20\x00\x00"},
		{"\xf0\x0f\xff\xff\xff", "\xf0\x10\x00\x00\x00"},
		{"\xf8\x07\xff\xff\xff\xff", "\xf8\x08\x00\x00\x00\x00"},
		{"\xfc\x03\xff\xff\xff\xff\xff", "\xfc\x04\x00\x00\x00\x00\x00"},
		{"\xfe\x01\xff\xff\xff\xff\xff\xff", "\xfe\x02\x00\x00\x00\x00\x00\x00"},
		{"\xff\x00\xff\xff\xff\xff\xff\xff\xff", "\xff\x01\x00\x00\x00\x00\x00\x00\x00"},
	} {
		taking{c.less, takeUint(math.MaxUint64), uint64(0), api.ErrForm, len(c.less)}.check(t)
		taking{c.less + "x", takeUint(0), uint64(0), api.ErrForm, len(c.less) + 1}.check(t) // ahead of ErrRange
		zero := c.less[:1] + strings.Repeat("\x00", len(c.less)-1)
		taking{zero, takeUint(0), uint64(0), api.ErrForm, len(zero)}.check(t)
		r := pack.Read([]byte(c.first))
		if n := r.Uint(math.MaxUint64); n == 0 || r.Done() != nil {
			t.Errorf("% x: %d, %v", c.first, n, r.Done())
		}
	}
}

// PK2: an int, and what is wrong with one: its first byte, then its number, then how great it is.
func TestReadInt(t *testing.T) {
	for _, c := range spelt {
		size := 1 + len(c.b)
		if c.n > math.MaxInt64 {
			taking{"\x00" + c.b, takeInt, 0, api.ErrRange, size}.check(t)
			taking{"\x01" + c.b + "x", takeInt, 0, api.ErrRange, size + 1}.check(t)
		} else {
			taking{"\x00" + c.b, takeInt, int(c.n), 0, 0}.check(t)
			taking{"\x01" + c.b + "x", takeInt, -1 - int(c.n), 0, 1}.check(t)
		}
		for cut := range len(c.b) {
			taking{"\x00" + c.b[:cut], takeInt, 0, api.ErrEnd, 1 + cut}.check(t)
			taking{"\x01" + c.b[:cut], takeInt, 0, api.ErrEnd, 1 + cut}.check(t)
		}
		taking{"\x02" + c.b, takeInt, 0, api.ErrForm, size}.check(t)
	}
	taking{"\x01\xff\x7f\xff\xff\xff\xff\xff\xff\xff", takeInt, math.MinInt, 0, 0}.check(t)
	taking{"", takeInt, 0, api.ErrEnd, 0}.check(t)
	taking{"\x02", takeInt, 0, api.ErrForm, 1}.check(t)
	taking{"\xff", takeInt, 0, api.ErrForm, 1}.check(t)
	taking{"\x00\x80\x7f", takeInt, 0, api.ErrForm, 3}.check(t)
	taking{"\x01\x80\x7f", takeInt, 0, api.ErrForm, 3}.check(t)
	taking{"\x00\xff\x00\xff\xff\xff\xff\xff\xff\xff", takeInt, 0, api.ErrForm, 10}.check(t)
}

// PK2: a count is held against its bound, and then against the bytes behind it.
func TestReadCount(t *testing.T) {
	long := "\x80\x80" + strings.Repeat("x", 128)
	for _, c := range []taking{
		{"\x00", takeCount(0), 0, 0, 0},
		{"\x00", takeCount(-1), 0, 0, 0},
		{"\x00", takeCount(math.MinInt), 0, 0, 0},
		{"\x00ab", takeCount(math.MaxInt), 0, 0, 2},
		{"\x02ab", takeCount(2), 2, 0, 2},
		{"\x02abc", takeCount(math.MaxInt), 2, 0, 3},
		{"\x02ab", takeCount(1), 0, api.ErrRange, 3},
		{"\x02a", takeCount(2), 0, api.ErrLong, 2},
		{"\x01", takeCount(1), 0, api.ErrLong, 1},
		{"\x02a", takeCount(1), 0, api.ErrRange, 2}, // ahead of ErrLong
		{"\x01a", takeCount(-1), 0, api.ErrRange, 2},
		{"\x01a", takeCount(math.MinInt), 0, api.ErrRange, 2},
		{"", takeCount(-1), 0, api.ErrEnd, 0},
		{"", takeCount(9), 0, api.ErrEnd, 0},
		{"\x81", takeCount(0), 0, api.ErrEnd, 1},
		{"\x80\x7f", takeCount(0), 0, api.ErrForm, 2},
		{"\x80\x01", takeCount(-5), 0, api.ErrForm, 2},
		{long, takeCount(128), 128, 0, 128},
		{long[:129], takeCount(128), 0, api.ErrLong, 129},
		{"\xff\x7f\xff\xff\xff\xff\xff\xff\xff", takeCount(math.MaxInt), 0, api.ErrLong, 9},
		{"\xff\x80\x00\x00\x00\x00\x00\x00\x00", takeCount(math.MaxInt), 0, api.ErrRange, 9},
		{"\xff\xff\xff\xff\xff\xff\xff\xff\xff", takeCount(-1), 0, api.ErrRange, 9},
	} {
		c.check(t)
	}
}

// PK2: a truth is one of two bytes.
func TestReadBool(t *testing.T) {
	taking{"", takeBool, false, api.ErrEnd, 0}.check(t)
	taking{"\x00", takeBool, false, 0, 0}.check(t)
	taking{"\x01", takeBool, true, 0, 0}.check(t)
	taking{"\x01\x00", takeBool, true, 0, 1}.check(t)
	for c := 2; c < 256; c++ {
		taking{string([]byte{byte(c), 0}), takeBool, false, api.ErrForm, 2}.check(t)
	}
}

// PK2: texts and bytes, and what is wrong with them: the bound, then the length's form, then the bound against it, then the end.
func TestReadText(t *testing.T) {
	long := strings.Repeat("x", 128)
	for _, c := range []struct {
		b    string
		most int
		want string
		err  api.Errno
		left int
	}{
		{"\x00", 0, "", 0, 0},
		{"\x00ab", math.MaxInt, "", 0, 2},
		{"\x02ab", 2, "ab", 0, 0},
		{"\x02abc", 9, "ab", 0, 1},
		{"\x02\x00\xff", 9, "\x00\xff", 0, 0},
		{"\x80\x80" + long, 128, long, 0, 0},
		{"\x80\x80" + long, 127, "", api.ErrLong, 130},
		{"\x80\x80" + long[1:], 128, "", api.ErrEnd, 129},
		{"\x02ab", 1, "", api.ErrLong, 3},
		{"\x02ab", 0, "", api.ErrLong, 3},
		{"\x02a", 2, "", api.ErrEnd, 2},
		{"\x01", math.MaxInt, "", api.ErrEnd, 1},
		{"\x02a", 1, "", api.ErrLong, 2}, // ahead of ErrEnd
		{"", 0, "", api.ErrEnd, 0},
		{"\x80", 0, "", api.ErrEnd, 1},
		{"\x80\x01", 0, "", api.ErrForm, 2},
		{"\x80\x01a", 9, "", api.ErrForm, 3},
		{"\xff\xff\xff\xff\xff\xff\xff\xff\xff", math.MaxInt, "", api.ErrLong, 9},
		{"\xff\x80\x00\x00\x00\x00\x00\x00\x00", math.MaxInt, "", api.ErrLong, 9},
		{"\xff\x7f\xff\xff\xff\xff\xff\xff\xff", math.MaxInt, "", api.ErrEnd, 9},
		{"\x02ab", -1, "", api.ErrArg, 3},
		{"\x00", -1, "", api.ErrArg, 1},
		{"", -1, "", api.ErrArg, 0}, // ahead of ErrEnd
		{"\x80\x01", math.MinInt, "", api.ErrArg, 2},
	} {
		taking{c.b, takeText(c.most), c.want, c.err, c.left}.check(t)
		taking{c.b, takeBytes(c.most), c.want, c.err, c.left}.check(t)
	}
}

// PK2: a print is its bytes, all of them.
func TestReadPrint(t *testing.T) {
	h := ramp(200)
	b := string(h[:])
	taking{b, takePrint, h, 0, 0}.check(t)
	taking{b + "x", takePrint, h, 0, 1}.check(t)
	for cut := range len(b) {
		taking{b[:cut], takePrint, api.Print{}, api.ErrEnd, cut}.check(t)
	}
}

// PK2: a reader goes on behind each thing.
func TestReaderGoesOn(t *testing.T) {
	h := ramp(9)
	r := pack.Read(pack.New().Uint(300).Int(-300).Bool(true).Text("ab").Uint(3).Bytes([]byte("cd")).Print(h).Bool(false).Done())
	left := r.Left()
	for i, step := range []struct {
		take func(*pack.Reader) any
		want any
		size int
	}{
		{takeUint(300), uint64(300), 2},
		{takeInt, -300, 3},
		{takeBool, true, 1},
		{takeText(2), "ab", 3},
		{takeCount(3), 3, 1},
		{takeBytes(2), "cd", 3},
		{takePrint, h, 32},
	} {
		if got := step.take(r); got != step.want {
			t.Errorf("step %d: %v, want %v", i, got, step.want)
		}
		left -= step.size
		if r.Left() != left || r.Err() != nil {
			t.Errorf("step %d: Left %d, want %d, Err %v", i, r.Left(), left, r.Err())
		}
		wantErr(t, "Done ahead of the end", r.Done(), api.ErrForm)
	}
	if r.Bool() || r.Left() != 0 {
		t.Errorf("the last: Left %d", r.Left())
	}
	wantErr(t, "Done", r.Done(), 0)
	r.Bool()
	wantErr(t, "Done behind the end", r.Done(), api.ErrEnd)
}

// PK3: Done asks alone: that bytes are left is no error that the reader keeps.
func TestDoneAsksAlone(t *testing.T) {
	r := pack.Read([]byte("\x05\x06"))
	wantErr(t, "Done", r.Done(), api.ErrForm)
	wantErr(t, "Err", r.Err(), 0)
	if a, b := r.Uint(9), r.Uint(9); a != 5 || b != 6 {
		t.Errorf("%d, %d", a, b)
	}
	wantErr(t, "Done", r.Done(), 0)
}

// PK3: the first error is the reader's for good, behind things that were taken off; nothing more is off.
func TestFirstErrorStays(t *testing.T) {
	for _, c := range []struct {
		take func(*pack.Reader) any
		err  api.Errno
	}{
		{takeUint(4), api.ErrRange},
		{takeInt, api.ErrForm},
		{takeCount(9), api.ErrLong},
		{takeBool, api.ErrForm},
		{takeText(-1), api.ErrArg},
		{takeText(4), api.ErrLong},
		{takeText(9), api.ErrEnd},
		{takeBytes(-1), api.ErrArg},
		{takeBytes(4), api.ErrLong},
		{takeBytes(9), api.ErrEnd},
		{takePrint, api.ErrEnd},
	} {
		r := pack.Read([]byte("\x01\x05abcd"))
		if !r.Bool() {
			t.Error("Bool: false")
		}
		c.take(r)
		wantErr(t, "Err", r.Err(), c.err)
		wantStuck(t, r, c.err, 5)
	}
}

// PK3: a nil reader: ErrArg of Err and Done, and else nothing.
func TestNilReader(t *testing.T) {
	var r *pack.Reader
	wantErr(t, "Err", r.Err(), api.ErrArg)
	wantErr(t, "Done", r.Done(), api.ErrArg)
	wantStuck(t, r, api.ErrArg, 0)
}

// PK3: bytes of which nothing is there are read to their end already.
func TestReadNothing(t *testing.T) {
	for _, b := range [][]byte{nil, {}} {
		r := pack.Read(b)
		if r == nil {
			t.Fatal("Read of nothing: no reader")
		}
		wantErr(t, "Err", r.Err(), 0)
		wantErr(t, "Done", r.Done(), 0)
		if r.Left() != 0 {
			t.Errorf("Left: %d", r.Left())
		}
	}
}

// PK2: a text and bytes of a whole blob.
func TestReadBlob(t *testing.T) {
	blob := bytes.Repeat([]byte{1, 2, 3, 255}, api.MaxBlob/4)
	r := pack.Read(pack.New().Bytes(blob).Text(string(blob)).Done())
	if b := r.Bytes(api.MaxBlob); !bytes.Equal(b, blob) {
		t.Error("Bytes: not the blob")
	}
	if s := r.Text(api.MaxBlob); s != string(blob) {
		t.Error("Text: not the blob")
	}
	wantErr(t, "Done", r.Done(), 0)
}
