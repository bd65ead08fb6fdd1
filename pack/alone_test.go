package pack_test

import (
	"bytes"
	"math"
	"strings"
	"testing"

	"drydock/api"
	"drydock/pack"
)

// fill writes over bytes and the spare room behind them.
func fill(b []byte) {
	b = b[:cap(b)]
	for i := range b {
		b[i] = 'X'
	}
}

// P6: every call ends and none panics, whatever it is given, in whatever order.
func TestTotal(t *testing.T) {
	texts := []string{
		"", "\x00", "\x01", "\x02", "\x7f", "\x80", "\xff",
		"\x00\x00", "\x01\xff", "\x80\x00", "\x80\x80",
		"\xff\xff\xff\xff\xff\xff\xff\xff", "\xff\xff\xff\xff\xff\xff\xff\xff\xff",
		"\x01\xff\x7f\xff\xff\xff\xff\xff\xff\xff", "\x01\xff\x80\x00\x00\x00\x00\x00\x00\x00",
		strings.Repeat("\x00", 100), strings.Repeat("\x01", 100), strings.Repeat("\xff", 100),
	}
	mosts := []int{math.MinInt, math.MinInt32, -1, 0, 1, 2, math.MaxInt32, math.MaxInt}
	for _, text := range texts {
		for _, most := range mosts {
			takes := []func(*pack.Reader) any{
				takeUint(uint64(most)), takeInt, takeCount(most), takeBool, takeText(most), takeBytes(most), takePrint,
			}
			for _, one := range takes {
				for _, two := range takes {
					for _, r := range []*pack.Reader{pack.Read([]byte(text)), nil} {
						one(r)
						two(r)
						one(r)
						r.Left()
						r.Err()
						r.Done()
					}
				}
			}
			for _, w := range []*pack.Writer{pack.New(), nil} {
				w.Uint(uint64(most)).Int(most).Bool(most > 0).Text(text).Bytes([]byte(text)).Print(api.Print{}).Done()
			}
		}
	}
}

// P6: the same calls answer the same.
func TestSameAgain(t *testing.T) {
	b := pack.New().Uint(5).Text("ab").Int(-7).Done()
	for range 3 {
		r := pack.Read(b)
		if n, s, i := r.Uint(9), r.Text(9), r.Int(); n != 5 || s != "ab" || i != -7 || r.Done() != nil {
			t.Errorf("%d, %q, %d, %v", n, s, i, r.Done())
		}
	}
}

// P6: what a writer is given is neither changed nor kept.
func TestWriterArgumentsAlone(t *testing.T) {
	for _, size := range []int{0, 1, 5, 300} {
		b := append(make([]byte, 0, 2*size+9), bytes.Repeat([]byte("a"), size)...)
		before := bytes.Clone(b[:cap(b)])
		w := pack.New().Bytes(b)
		want := string(w.Done())
		if !bytes.Equal(b[:cap(b)], before) {
			t.Errorf("Bytes changed its argument: %q", b[:cap(b)])
		}
		fill(b)
		wantBytes(t, "Bytes kept its argument", w, want)
		w.Bool(true)
		if !bytes.Equal(b[:cap(b)], bytes.Repeat([]byte("X"), cap(b))) {
			t.Error("a later call wrote into an argument")
		}
	}
}

// P6: what Done answers is new memory, spare room too.
func TestWriterAnswersAlone(t *testing.T) {
	w := pack.New()
	want := ""
	for range 40 {
		one, two := w.Done(), w.Done()
		fill(one)
		if string(two) != want {
			t.Fatalf("two answers of Done share memory: % x", two)
		}
		wantBytes(t, "Done shares memory with the writer", w, want)
		w.Text("ab")
		want += "\x02ab"
		wantBytes(t, "Text behind Done", w, want)
		if string(two)+"\x02ab" != want {
			t.Fatalf("a later call changed an answer: % x", two)
		}
	}
}

// P6: the bytes that a reader reads are neither changed nor kept.
func TestReaderArgumentAlone(t *testing.T) {
	h := ramp(3)
	laid := pack.New().Bytes([]byte("abc")).Text("def").Print(h).Uint(300).Done()
	b := append(make([]byte, 0, 2*len(laid)), laid...)
	before := bytes.Clone(b[:cap(b)])
	r := pack.Read(b)
	first := r.Bytes(3)
	if !bytes.Equal(b[:cap(b)], before) {
		t.Errorf("the argument was changed: % x", b[:cap(b)])
	}
	fill(b)
	if s, p, n := r.Text(3), r.Print(), r.Uint(300); s != "def" || p != h || n != 300 || r.Done() != nil {
		t.Errorf("the argument was kept: %q, %x, %d, %v", s, p, n, r.Done())
	}
	if string(first) != "abc" {
		t.Errorf("an answer shares the argument's memory: %q", first)
	}
}

// P6: what Bytes answers is new memory, spare room too.
func TestReaderAnswersAlone(t *testing.T) {
	b := pack.New().Bytes([]byte("abc")).Bytes(nil).Bytes([]byte("def")).Text("ghi").Done()
	before := bytes.Clone(b)
	r := pack.Read(b)
	one := r.Bytes(9)
	fill(one)
	none := r.Bytes(9)
	fill(none)
	_ = append(none, "XXXX"...)
	two := r.Bytes(9)
	if string(two) != "def" {
		t.Errorf("an answer shares the reader's memory: %q", two)
	}
	fill(one)
	s := r.Text(9)
	if string(two) != "def" || s != "ghi" || r.Done() != nil {
		t.Errorf("answers share memory: %q, %q, %v", two, s, r.Done())
	}
	fill(two)
	if s != "ghi" || !bytes.Equal(b, before) {
		t.Errorf("an answer shares memory: %q, % x", s, b)
	}
}

// P6: two readers of the same bytes have nothing in common.
func TestReadersAlone(t *testing.T) {
	b := []byte("\x01\x02ab")
	one, two := pack.Read(b), pack.Read(b)
	one.Text(-1)
	wantErr(t, "one", one.Err(), api.ErrArg)
	if !two.Bool() {
		t.Error("other: false")
	}
	fill(two.Bytes(2))
	wantErr(t, "other", two.Done(), 0)
	if one.Left() != 4 || pack.Read(b).Left() != 4 {
		t.Errorf("Left: %d", one.Left())
	}
}
