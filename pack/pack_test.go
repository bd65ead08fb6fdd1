package pack_test

import (
	"bytes"
	"errors"
	"math"
	"strings"
	"testing"

	"drydock/api"
	"drydock/pack"
)

// The calls as the chapter lists them.
var (
	_ interface {
		Uint(n uint64) *pack.Writer
		Int(n int) *pack.Writer
		Bool(b bool) *pack.Writer
		Text(s string) *pack.Writer
		Bytes(b []byte) *pack.Writer
		Print(h api.Print) *pack.Writer
		Done() []byte
	} = pack.New()
	_ interface {
		Uint(most uint64) uint64
		Int() int
		Count(most int) int
		Bool() bool
		Text(most int) string
		Bytes(most int) []byte
		Print() api.Print
		Left() int
		Err() error
		Done() error
	} = pack.Read(nil)
)

// wantErr checks that an error is that number, found as the document asks; 0: none.
func wantErr(t *testing.T, what string, err error, want api.Errno) {
	t.Helper()
	if want == 0 {
		if err != nil {
			t.Errorf("%s: %v, want no error", what, err)
		}
		return
	}
	var got api.Errno
	if !errors.As(err, &got) || got != want {
		t.Errorf("%s: %v, want %v", what, err, want)
	}
}

// wantBytes checks all that a writer has laid.
func wantBytes(t *testing.T, what string, w *pack.Writer, want string) {
	t.Helper()
	if got := w.Done(); string(got) != want {
		t.Errorf("%s: % x, want % x", what, got, want)
	}
}

// ramp is a print, each byte of which is another one.
func ramp(first byte) api.Print {
	var h api.Print
	for i := range h {
		h[i] = first + byte(i)
	}
	return h
}

// spelt are numbers at all the edges that the form has, and their bytes.
var spelt = []struct {
	n uint64
	b string
}{
	{0, "\x00"},
	{1, "\x01"},
	{127, "\x7f"},
	{128, "\x80\x80"},
	{255, "\x80\xff"},
	{256, "\x81\x00"},
	{300, "\x81\x2c"},
	{1<<14 - 1, "\xbf\xff"},
	{1 << 14, "\xc0\x40\x00"},
	{1<<21 - 1, "\xdf\xff\xff"},
	{1 << 21, "\xe0\x20\x00\x00"},
	{1<<28 - 1, "\xef\xff\xff\xff"},
	{1 << 28, "\xf0\x10\x00\x00\x00"},
	{1<<35 - 1, "\xf7\xff\xff\xff\xff"},
	{1 << 35, "\xf8\x08\x00\x00\x00\x00"},
	{1<<42 - 1, "\xfb\xff\xff\xff\xff\xff"},
	{1 << 42, "\xfc\x04\x00\x00\x00\x00\x00"},
	{1<<49 - 1, "\xfd\xff\xff\xff\xff\xff\xff"},
	{1 << 49, "\xfe\x02\x00\x00\x00\x00\x00\x00"},
	{0x123456789abcde, "\xfe\x12\x34\x56\x78\x9a\xbc\xde"},
	{1<<56 - 1, "\xfe\xff\xff\xff\xff\xff\xff\xff"},
	{1 << 56, "\xff\x01\x00\x00\x00\x00\x00\x00\x00"},
	{0x123456789abcdef0, "\xff\x12\x34\x56\x78\x9a\xbc\xde\xf0"},
	{math.MaxInt64, "\xff\x7f\xff\xff\xff\xff\xff\xff\xff"},
	{math.MaxInt64 + 1, "\xff\x80\x00\x00\x00\x00\x00\x00\x00"},
	{math.MaxUint64, "\xff\xff\xff\xff\xff\xff\xff\xff\xff"},
}

// PK1: a number has as few bytes as can be, and its first one tells how many.
func TestWriteUint(t *testing.T) {
	for _, c := range spelt {
		wantBytes(t, "Uint", pack.New().Uint(c.n), c.b)
	}
}

// PK1: an int has a byte that tells whether it is below 0, and a number.
func TestWriteInt(t *testing.T) {
	for _, c := range spelt {
		if c.n > math.MaxInt64 {
			continue
		}
		n := int(c.n)
		wantBytes(t, "Int from 0 on", pack.New().Int(n), "\x00"+c.b)
		wantBytes(t, "Int below 0", pack.New().Int(-1-n), "\x01"+c.b)
	}
	wantBytes(t, "Int(-1)", pack.New().Int(-1), "\x01\x00")
	wantBytes(t, "Int(MinInt)", pack.New().Int(math.MinInt), "\x01\xff\x7f\xff\xff\xff\xff\xff\xff\xff")
}

// PK1: a truth is a byte.
func TestWriteBool(t *testing.T) {
	wantBytes(t, "Bool", pack.New().Bool(true), "\x01")
	wantBytes(t, "Bool", pack.New().Bool(false), "\x00")
}

// PK1: a text and bytes have their length ahead, counted in bytes, whatever they are.
func TestWriteText(t *testing.T) {
	for _, c := range []struct{ s, b string }{
		{"", "\x00"},
		{"a", "\x01a"},
		{"\x00\x00", "\x02\x00\x00"},
		{"é€", "\x05\xc3\xa9\xe2\x82\xac"},
		{"\xff\xc3", "\x02\xff\xc3"},
		{strings.Repeat("x", 127), "\x7f" + strings.Repeat("x", 127)},
		{strings.Repeat("x", 128), "\x80\x80" + strings.Repeat("x", 128)},
		{strings.Repeat("y", 300), "\x81\x2c" + strings.Repeat("y", 300)},
		{strings.Repeat("z", api.MaxBlob), "\xd0\x00\x00" + strings.Repeat("z", api.MaxBlob)},
	} {
		wantBytes(t, "Text", pack.New().Text(c.s), c.b)
		wantBytes(t, "Bytes", pack.New().Bytes([]byte(c.s)), c.b)
	}
	wantBytes(t, "Bytes(nil)", pack.New().Bytes(nil), "\x00")
}

// PK1: a print is its bytes, without a length.
func TestWritePrint(t *testing.T) {
	h := ramp(7)
	wantBytes(t, "Print", pack.New().Print(h), string(h[:]))
	wantBytes(t, "Print of noughts", pack.New().Print(api.Print{}), strings.Repeat("\x00", 32))
}

// PK1: a new writer has nothing; each call lays its thing behind, and answers the writer itself.
func TestWriterGoesOn(t *testing.T) {
	w := pack.New()
	wantBytes(t, "New", w, "")
	h := ramp(1)
	want := ""
	for i, step := range []struct {
		lay func() *pack.Writer
		b   string
	}{
		{func() *pack.Writer { return w.Uint(300) }, "\x81\x2c"},
		{func() *pack.Writer { return w.Int(-2) }, "\x01\x01"},
		{func() *pack.Writer { return w.Bool(true) }, "\x01"},
		{func() *pack.Writer { return w.Text("ab") }, "\x02ab"},
		{func() *pack.Writer { return w.Bytes([]byte("c")) }, "\x01c"},
		{func() *pack.Writer { return w.Print(h) }, string(h[:])},
		{func() *pack.Writer { return w.Int(2) }, "\x00\x02"},
		{func() *pack.Writer { return w.Bool(false) }, "\x00"},
	} {
		if step.lay() != w {
			t.Errorf("step %d answers another writer", i)
		}
		want += step.b
		wantBytes(t, "the first Done", w, want)
		wantBytes(t, "the second Done", w, want)
	}
	if pack.New() == pack.New() {
		t.Error("two writers are one")
	}
}

// PK1: the chapter's example.
func TestExample(t *testing.T) {
	wantBytes(t, "example", pack.New().Uint(300).Bool(true), "\x81\x2c\x01")
}

// PK1: a nil writer lays nothing, and answers itself.
func TestNilWriter(t *testing.T) {
	var w *pack.Writer
	for what, got := range map[string]*pack.Writer{
		"Uint":  w.Uint(math.MaxUint64),
		"Int":   w.Int(-1),
		"Bool":  w.Bool(true),
		"Text":  w.Text("a"),
		"Bytes": w.Bytes([]byte("a")),
		"Print": w.Print(ramp(0)),
		"chain": w.Uint(1).Int(2).Bool(true).Text("x").Bytes(nil).Print(ramp(0)),
	} {
		if got != nil {
			t.Errorf("%s of a nil writer answers a writer", what)
		}
	}
	if got := w.Done(); len(got) != 0 {
		t.Errorf("Done of a nil writer: % x", got)
	}
}

// PK1: what one writer lays, another one has not.
func TestWritersAlone(t *testing.T) {
	a := pack.New().Text("aaaa")
	b := pack.New().Text("bbbb")
	a.Uint(1)
	b.Uint(2)
	wantBytes(t, "one", a, "\x04aaaa\x01")
	wantBytes(t, "other", b, "\x04bbbb\x02")
	if !bytes.Equal(a.Done(), a.Done()) {
		t.Error("two answers of Done differ")
	}
}
