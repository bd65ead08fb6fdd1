package table_test

import (
	"bytes"
	"math"
	"math/rand"
	"slices"
	"strings"
	"sync"
	"testing"

	"drydock/api"
	"drydock/table"
)

// use makes every call of a table, with a key and a number.
func use(x *table.Table, key string, i int) {
	x.Len()
	x.Parts()
	x.Part(i)
	x.Find(key)
	x.Get(key)
	x.Entries()
	x.First()
	x.Last()
	x.Filter().Add(key)
}

// P6: every call ends and none panics, whatever it is given.
func TestTotal(t *testing.T) {
	long := strings.Repeat("\xff", api.MaxBlob+1)
	keys := []string{"", "\x00", "\x01", "a", "\xff\xfe", long}
	numbers := []int{math.MinInt, -1, 0, 1, 2, 64, 65, 1000, 1001, 1 << 14, math.MaxInt32, 1 << 32, math.MaxInt}
	lists := [][]api.Entry{nil, {}, put(""), put("a", "b"), put("b", "a"), {{}, {}}, put(long), {{Key: "a", Value: long}}, {{Key: "a", Value: long, Gone: true}}, many(mostEntries + 1)}
	for _, l := range lists {
		for _, part := range numbers {
			for _, bits := range numbers {
				b, err := table.Build(l, part, bits)
				if err != nil {
					continue
				}
				x, err := table.Open(b)
				wantErr(t, "Open", err, 0)
				use(x, keys[part%len(keys)], bits)
			}
		}
	}
	x := made(t, put("", "a", "b"), 2, 1)
	for _, key := range keys {
		for _, i := range numbers {
			use(x, key, i)
			use(nil, key, i)
		}
	}
}

// P6: of bytes of no meaning each call ends, and a table that comes of them can be used.
func TestTotalOfAnyBytes(t *testing.T) {
	rnd := rand.New(rand.NewSource(7))
	there := 0
	for range 30000 {
		var b []byte
		if rnd.Intn(2) == 0 {
			b = make([]byte, rnd.Intn(24))
			few := []int{2, 4, 18, 256}[rnd.Intn(4)]
			for i := range b {
				b[i] = byte(rnd.Intn(few))
			}
		} else {
			b = anyForm(rnd).bare()
		}
		if rnd.Intn(20) > 0 {
			b = sealed(b)
		}
		x, err := table.Open(b)
		if err == nil {
			there++
			use(x, anyKey(rnd), rnd.Intn(5)-1)
			use(x, x.First(), 0)
			use(x, x.Last(), x.Parts()-1)
		}
	}
	if there < 1000 {
		t.Errorf("only %d are tables", there)
	}
}

// anyForm is a table's of which some part has bytes of no meaning.
func anyForm(rnd *rand.Rand) form {
	f := formOf(anyEntries(rnd, 9), 1+rnd.Intn(4), 1+rnd.Intn(3))
	i := rnd.Intn(len(f.pieces))
	b := f.pieces[i][:len(f.pieces[i])-4]
	b[rnd.Intn(len(b))] = byte(rnd.Intn([]int{4, 256}[rnd.Intn(2)]))
	f.pieces[i] = sealed(b)
	if rnd.Intn(4) == 0 {
		f.last += "x"
	}
	return f
}

// P6: the same call answers the same, whatever was asked, and of whatever other tables, between; asking changes nothing.
func TestSameAgain(t *testing.T) {
	rnd := rand.New(rand.NewSource(8))
	for range 200 {
		l, part, bits := anyEntries(rnd, 30), 1+rnd.Intn(9), 1+rnd.Intn(9)
		b := built(t, l, part, bits)
		x, key := opened(t, b), anyKey(rnd)
		i := rnd.Intn(x.Parts())
		some, find := partAt(t, x, i), x.Find(key)
		e, ok, _ := x.Get(key)
		for range 4 {
			use(made(t, anyEntries(rnd, 9), 2, 3), anyKey(rnd), 0)
			use(x, anyKey(rnd), rnd.Intn(5)-1)
			for _, same := range []*table.Table{x, opened(t, b), made(t, l, part, bits)} {
				wantPart(t, same, i, some...)
				wantFind(t, same, key, find)
				if got, there, err := same.Get(key); got != e || there != ok || err != nil {
					t.Fatalf("Get(%q): %#v, %v, %v, was %#v, %v", key, got, there, err, e, ok)
				}
				wantAs(t, same, l, part, bits)
			}
		}
	}
}

// spoil writes over entries and the room behind them.
func spoil(l []api.Entry) {
	l = l[:cap(l)]
	for i := range l {
		l[i] = api.Entry{Key: "spoilt", Value: "spoilt", Gone: !l[i].Gone}
	}
}

// fill writes over bytes and the room behind them.
func fill(b []byte) {
	b = b[:cap(b)]
	for i := range b {
		b[i] ^= 0xff
	}
}

// P6: entries that were handed in read afterwards as they did, what is ahead and the room behind too, and are not kept.
func TestEntriesAlone(t *testing.T) {
	rnd := rand.New(rand.NewSource(9))
	for range 300 {
		l := anyEntries(rnd, 20)
		all := slices.Concat(put("ahead"), l, anyEntries(rnd, 5))
		before := slices.Clone(all)
		in := all[1 : 1+len(l)]
		b := built(t, in, 3, 4)
		table.Build(in, 0, 0)
		table.Build(all, 1, 1)
		if !slices.Equal(all, before) {
			t.Fatalf("changed to %#v, was %#v", all, before)
		}
		want := slices.Clone(b)
		spoil(all)
		if !bytes.Equal(b, want) {
			t.Fatalf("what was built changed to % x, was % x", b, want)
		}
		fill(b)
		wantBuild(t, l, 3, 4, want)
	}
}

// P6: bytes that were handed in read afterwards as they did, the room behind too, and may be changed without changing the table.
func TestBytesAlone(t *testing.T) {
	rnd := rand.New(rand.NewSource(10))
	for range 300 {
		l, part, bits := anyEntries(rnd, 20), 1+rnd.Intn(9), 1+rnd.Intn(9)
		want := built(t, l, part, bits)
		all := slices.Concat([]byte("ahead"), want, []byte(anyKey(rnd)))
		before := slices.Clone(all)
		x := opened(t, all[5:5+len(want)])
		wantNoOpen(t, all[5:5+len(want)-1], api.ErrSum)
		use(x, anyKey(rnd), 0)
		if !bytes.Equal(all, before) {
			t.Fatalf("changed to % x, was % x", all, before)
		}
		fill(all)
		wantAs(t, x, l, part, bits)
		fill(all)
		use(x, anyKey(rnd), 0)
		if !bytes.Equal(all, before) {
			t.Fatalf("a table writes into what it came of: % x, was % x", all, before)
		}
	}
}

// P6: changing what was handed out, the room behind it too, changes nothing of the table, nor of another answer.
func TestAnswersAlone(t *testing.T) {
	rnd := rand.New(rand.NewSource(11))
	for range 300 {
		l, part, bits := anyEntries(rnd, 20), 1+rnd.Intn(9), 1+rnd.Intn(9)
		b, other := built(t, l, part, bits), built(t, l, part, bits)
		x := opened(t, b)
		fill(b)
		if !bytes.Equal(other, built(t, l, part, bits)) {
			t.Fatalf("Build's answers share memory")
		}
		wantAs(t, x, l, part, bits)
		i := rnd.Intn(x.Parts())
		some, all := partAt(t, x, i), told(l)
		want := slices.Clone(some)
		for _, ask := range []func() ([]api.Entry, error){x.Entries, func() ([]api.Entry, error) { return x.Part(i) }, x.Entries} {
			got, err := ask()
			wantErr(t, "a list", err, 0)
			spoil(got)
			_ = append(got, put("spoilt")...)
			_ = append(got[:0], put("spoilt", "instead")...)
			wantList(t, "Part of old", some, want)
			wantAll(t, x, all...)
			wantAs(t, x, l, part, bits)
		}
	}
}

// P6: the filter is one's own: what is added to it is in no other one, and in none that the table asks.
func TestFilterAlone(t *testing.T) {
	l := put("b", "d", "f")
	x := made(t, l, 2, 20)
	want := formOf(l, 2, 20).filter
	one, two := x.Filter(), x.Filter()
	for _, key := range []string{"c", "d\x00", "e", "c\xff", "ee"} {
		wantFind(t, x, key, -1)
		one.Add(key)
		wantFind(t, x, key, -1)
		if !one.May(key) || two.May(key) {
			t.Fatalf("%q: %v in the one, %v in the other", key, one.May(key), two.May(key))
		}
	}
	if !bytes.Equal(two.Encode(), want) {
		t.Fatalf("the other filter is % x, was % x", two.Encode(), want)
	}
	wantFilter(t, x, want)
	fill(two.Encode())
	wantAs(t, x, l, 2, 20)
}

// P6: the entry that Get answers is one's own.
func TestEntryAlone(t *testing.T) {
	x := made(t, []api.Entry{{Key: "a", Value: "x"}}, 1, 1)
	e, _, _ := x.Get("a")
	e.Key, e.Value, e.Gone = "b", "y", true
	wantGet(t, x, api.Entry{Key: "a", Value: "x"})
}

// P6: tables that are used at the same time have nothing to do with one another, and one can be asked by many.
func TestAtTheSameTime(t *testing.T) {
	l := many(100)
	b := built(t, l, 7, 5)
	shared, want := opened(t, b), told(l)
	var all sync.WaitGroup
	for i := range 8 {
		all.Add(1)
		go func() {
			defer all.Done()
			rnd := rand.New(rand.NewSource(int64(i)))
			for range 100 {
				some := anyEntries(rnd, 20)
				own, err := table.Build(some, 3, 4)
				if err != nil || !bytes.Equal(own, formOf(some, 3, 4).bytes()) {
					t.Errorf("Build: %v, % x", err, own)
				}
				other, err := table.Open(b)
				if err != nil {
					t.Errorf("Open: %v", err)
					return
				}
				for _, x := range []*table.Table{shared, other} {
					e := want[rnd.Intn(len(want))]
					if got, ok, err := x.Get(e.Key); got != e || !ok || err != nil {
						t.Errorf("Get(%q): %#v, %v, %v", e.Key, got, ok, err)
					}
					if got, err := x.Entries(); err != nil || !slices.Equal(got, want) {
						t.Errorf("Entries: %#v, %v", got, err)
					}
					x.Filter().Add(anyKey(rnd))
				}
			}
		}()
	}
	all.Wait()
}
