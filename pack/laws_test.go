package pack_test

import (
	"bytes"
	"math"
	"math/rand"
	"slices"
	"testing"

	"drydock/api"
	"drydock/pack"
)

// edges are the numbers around each power of two, ascending.
func edges() []uint64 {
	ns := []uint64{0, math.MaxUint64}
	for shift := range 64 {
		p := uint64(1) << shift
		ns = append(ns, p-1, p, p+1)
	}
	slices.Sort(ns)
	return slices.Compact(ns)
}

// PK4: numbers are taken off as they were laid, and have as few bytes as can be.
func TestUintThereAndBack(t *testing.T) {
	r := rand.New(rand.NewSource(1))
	ns := edges()
	for range 20000 {
		ns = append(ns, r.Uint64()>>r.Intn(64))
	}
	for _, n := range ns {
		b := pack.New().Uint(n).Done()
		size := 1
		for size < 9 && n>>(7*size) != 0 {
			size++
		}
		rd := pack.Read(b)
		if got := rd.Uint(n); got != n || rd.Done() != nil || len(b) != size {
			t.Errorf("%d: % x, %d, %v", n, b, got, rd.Done())
		}
	}
}

// PK4: ints are taken off as they were laid.
func TestIntThereAndBack(t *testing.T) {
	for _, n := range edges() {
		for _, n := range []int{int(n), -int(n)} {
			rd := pack.Read(pack.New().Int(n).Done())
			if got := rd.Int(); got != n || rd.Done() != nil {
				t.Errorf("%d: %d, %v", n, got, rd.Done())
			}
		}
	}
}

// thing is one that a writer lays, and its kind's reader.
type thing struct {
	lay   func(w *pack.Writer)
	takes func(r *pack.Reader) bool
}

// anyThing is one picked by rnd.
func anyThing(rnd *rand.Rand) thing {
	n, b := rnd.Uint64()>>rnd.Intn(64), make([]byte, rnd.Intn(300))
	rnd.Read(b)
	switch rnd.Intn(6) {
	case 0:
		return thing{func(w *pack.Writer) { w.Uint(n) }, func(r *pack.Reader) bool { return r.Uint(n) == n }}
	case 1:
		return thing{func(w *pack.Writer) { w.Int(int(n)) }, func(r *pack.Reader) bool { return r.Int() == int(n) }}
	case 2:
		return thing{func(w *pack.Writer) { w.Bool(n&1 == 1) }, func(r *pack.Reader) bool { return r.Bool() == (n&1 == 1) }}
	case 3:
		return thing{func(w *pack.Writer) { w.Text(string(b)) }, func(r *pack.Reader) bool { return r.Text(len(b)) == string(b) }}
	case 4:
		return thing{func(w *pack.Writer) { w.Bytes(b) }, func(r *pack.Reader) bool { return bytes.Equal(r.Bytes(len(b)), b) }}
	}
	h := ramp(byte(n))
	return thing{func(w *pack.Writer) { w.Print(h) }, func(r *pack.Reader) bool { return r.Print() == h }}
}

// PK4: whatever is laid, in whatever order, is taken off as it was.
func TestThingsThereAndBack(t *testing.T) {
	for seed := range int64(300) {
		rnd := rand.New(rand.NewSource(seed))
		w := pack.New()
		var things []thing
		for range rnd.Intn(20) {
			things = append(things, anyThing(rnd))
			things[len(things)-1].lay(w)
		}
		r := pack.Read(w.Done())
		for i, th := range things {
			if !th.takes(r) || r.Err() != nil {
				t.Fatalf("seed %d, thing %d: %v", seed, i, r.Err())
			}
		}
		wantErr(t, "Done", r.Done(), 0)
	}
}

// again takes bytes off whole by one kind, and lays what it got again; nil, where they can't be taken off whole.
func again(b []byte, kind int) []byte {
	r, w := pack.Read(b), pack.New()
	switch kind {
	case 0:
		w.Uint(r.Uint(math.MaxUint64))
	case 1:
		w.Int(r.Int())
	case 2:
		w.Bool(r.Bool())
	case 3:
		w.Text(r.Text(math.MaxInt))
	case 4:
		w.Bytes(r.Bytes(math.MaxInt))
	case 5:
		w.Print(r.Print())
	}
	if r.Done() != nil {
		return nil
	}
	return w.Done()
}

// wantOneWay checks that bytes which can be taken off whole are what is laid again.
func wantOneWay(t *testing.T, b []byte) {
	t.Helper()
	for kind := range 6 {
		if got := again(b, kind); got != nil && !bytes.Equal(got, b) {
			t.Fatalf("kind %d: % x laid again is % x", kind, b, got)
		}
	}
}

// PK4: of all short bytes, and of long ones near the form, those that are taken off whole are laid again the same.
func TestOneWay(t *testing.T) {
	for a := range 256 {
		wantOneWay(t, []byte{byte(a)})
		for b := range 256 {
			wantOneWay(t, []byte{byte(a), byte(b)})
			for _, c := range []byte{0, 1, 0x3f, 0x40, 0x7f, 0x80, 0xff} {
				wantOneWay(t, []byte{byte(a), byte(b), c})
			}
		}
	}
	rnd := rand.New(rand.NewSource(2))
	firsts := []byte{0, 1, 2, 0x80, 0xc0, 0xe0, 0xf0, 0xf8, 0xfc, 0xfe, 0xff}
	for range 100000 {
		b := make([]byte, 1+rnd.Intn(40))
		rnd.Read(b)
		for i := range min(4, len(b)) {
			if rnd.Intn(2) == 0 {
				b[i] = firsts[rnd.Intn(len(firsts))]
			}
		}
		wantOneWay(t, b)
	}
}

// PK4: of all two bytes those that are a number stand for one each, in order.
func TestAllNumbersOfTwoBytes(t *testing.T) {
	next := uint64(128)
	for a := range 256 {
		for b := range 256 {
			r := pack.Read([]byte{byte(a), byte(b)})
			n := r.Uint(math.MaxUint64)
			switch {
			case a < 128:
				if n != uint64(a) || r.Left() != 1 {
					t.Fatalf("%d %d: %d, Left %d", a, b, n, r.Left())
				}
			case a == 128 && b < 128:
				wantErr(t, "fewer would do", r.Err(), api.ErrForm)
			case a < 192:
				if n != next || r.Done() != nil {
					t.Fatalf("%d %d: %d, want %d", a, b, n, next)
				}
				next++
			default:
				wantErr(t, "more are told", r.Err(), api.ErrEnd)
			}
		}
	}
	if next != 1<<14 {
		t.Errorf("the next number: %d", next)
	}
}

// PK4: of two numbers the smaller one's bytes come first.
func TestNumbersInOrder(t *testing.T) {
	ns := edges()
	rnd := rand.New(rand.NewSource(3))
	for range 500 {
		ns = append(ns, rnd.Uint64()>>rnd.Intn(64))
	}
	slices.Sort(ns)
	ns = slices.Compact(ns)
	for i, m := range ns {
		for _, n := range ns[i+1:] {
			a, b := pack.New().Uint(m).Done(), pack.New().Uint(n).Done()
			if bytes.Compare(a, b) >= 0 {
				t.Fatalf("%d: % x, %d: % x", m, a, n, b)
			}
		}
	}
}
