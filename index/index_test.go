package index_test

import (
	"math"
	"slices"
	"strings"
	"testing"

	"drydock/api"
	"drydock/index"
)

// The calls as the chapter lists them.
var (
	_ func(c index.Config) (*index.Index, error)        = index.New
	_ func(x *index.Index, key, value string) error     = (*index.Index).Put
	_ func(x *index.Index, key string) error            = (*index.Index).Drop
	_ func(x *index.Index, key string) (string, bool)   = (*index.Index).Get
	_ func(x *index.Index, from, to string) []api.Entry = (*index.Index).Range
	_ func(x *index.Index) error                        = (*index.Index).Flush
	_ func(x *index.Index) []int                        = (*index.Index).Levels
	_ func(x *index.Index) int                          = (*index.Index).Held
	_ func(x *index.Index) (*index.Job, error)          = (*index.Index).Compact
	_ func(j *index.Job, n int) (bool, error)           = (*index.Job).Step
	_ func(x *index.Index) *index.View                  = (*index.Index).View
	_ func(v *index.View, key string) (string, bool)    = (*index.View).Get
	_ func(v *index.View, from, to string) []api.Entry  = (*index.View).Range
	_ func(v *index.View)                               = (*index.View).Release
	_ func(x *index.Index) ([]byte, error)              = (*index.Index).Encode
	_ func(b []byte) (*index.Index, error)              = index.Decode
)

// some is a small index: two entries ahead, one table a level.
var some = index.Config{Mem: 2, Fan: 1, Part: 2, Bits: 8}

// most and least are the edges.
var (
	most  = index.Config{Mem: 1000, Fan: 16, Part: 1000, Bits: 64}
	least = index.Config{Mem: 1, Fan: 1, Part: 1, Bits: 1}
)

// IX1, IX2: the chapter's example.
func TestExample(t *testing.T) {
	x := fresh(t, index.Config{Mem: 1, Fan: 1, Part: 2, Bits: 8})
	for _, key := range []string{"a", "b", "c"} {
		wantErr(t, "Put", x.Put(key, ""), 0)
	}
	wantLevels(t, x, 2)
	wantStep(t, jobOf(t, x), 9, true)
	wantLevels(t, x, 0, 1)
	wantOnly(t, x, value("a", ""), value("b", ""), value("c", ""))
}

// IX1: each number of a Config at its edges and beyond.
func TestNew(t *testing.T) {
	fields := []struct {
		most int
		of   func(c *index.Config) *int
	}{
		{1000, func(c *index.Config) *int { return &c.Mem }},
		{16, func(c *index.Config) *int { return &c.Fan }},
		{1000, func(c *index.Config) *int { return &c.Part }},
		{64, func(c *index.Config) *int { return &c.Bits }},
	}
	for _, base := range []index.Config{some, least, most} {
		for _, f := range fields {
			for _, n := range []int{1, 2, f.most - 1, f.most} {
				c := base
				*f.of(&c) = n
				newPair(t, c).check()
			}
			for _, n := range []int{math.MinInt, -f.most, -1, 0, f.most + 1, 1001, 1 << 16, 1<<32 + 1, math.MaxInt} {
				c := base
				*f.of(&c) = n
				x, err := index.New(c)
				if wantErr(t, "New", err, api.ErrArg); x != nil {
					t.Fatalf("New(%v): an index beside an error", c)
				}
			}
		}
	}
	_, err := index.New(index.Config{})
	wantErr(t, "New", err, api.ErrArg)
}

// IX1: an index without entries has nothing.
func TestNothing(t *testing.T) {
	for _, c := range []index.Config{some, least, most} {
		p := newPair(t, c)
		p.check("a", "\x00", "\xff")
		wantLevels(t, p.x)
		wantHeld(t, p.x, 0)
		wantNo(t, p.x, "", "a")
		wantOnly(t, p.x)
		p.flush()
		p.check("a")
		wantLevels(t, p.x)
		wantNoJob(t, p.x, api.ErrNone)
	}
}

// IX1: what is put is there, with its last value, till it is dropped.
func TestPut(t *testing.T) {
	for _, c := range []index.Config{some, least, most} {
		x := fresh(t, c)
		wantErr(t, "Put", x.Put("b", "x"), 0)
		wantOnly(t, x, value("b", "x"))
		wantErr(t, "Put", x.Put("a", "y"), 0)
		wantOnly(t, x, value("a", "y"), value("b", "x"))
		wantErr(t, "Put", x.Put("b", "z"), 0)
		wantOnly(t, x, value("a", "y"), value("b", "z"))
		wantErr(t, "Drop", x.Drop("a"), 0)
		wantOnly(t, x, value("b", "z"))
		wantErr(t, "Put", x.Put("c", ""), 0)
		wantErr(t, "Put", x.Put("a", "again"), 0)
		wantOnly(t, x, value("a", "again"), value("b", "z"), value("c", ""))
	}
}

// IX1: an empty key and an empty value are as others, ahead of the tables and in them.
func TestEmpty(t *testing.T) {
	for _, c := range []index.Config{some, least, most} {
		x := fresh(t, c)
		wantErr(t, "Put", x.Put("", ""), 0)
		wantOnly(t, x, value("", ""))
		wantErr(t, "Put", x.Put("a", ""), 0)
		wantOnly(t, x, value("", ""), value("a", ""))
		wantErr(t, "Flush", x.Flush(), 0)
		wantOnly(t, x, value("", ""), value("a", ""))
		wantErr(t, "Put", x.Put("", "x"), 0)
		wantOnly(t, x, value("", "x"), value("a", ""))
		wantErr(t, "Drop", x.Drop(""), 0)
		wantOnly(t, x, value("a", ""))
		wantErr(t, "Flush", x.Flush(), 0)
		wantOnly(t, x, value("a", ""))
	}
}

// IX1: a key and a value of 512 bytes together are laid in, one byte more is not, however they are shared out, and changes nothing.
func TestLong(t *testing.T) {
	long := strings.Repeat("\xff", 600)
	for _, n := range []int{0, 1, 255, 256, 257, 511, 512} {
		p := newPair(t, some)
		p.lay(value(long[:n], long[:512-n]))
		p.check()
		before := encoded(t, p.x)
		for _, more := range []int{1, 2, 80} {
			wantErr(t, "Put", p.x.Put(long[:n], long[:512-n+more]), api.ErrLong)
			wantErr(t, "Put", p.x.Put(long[:n+more], long[:512-n]), api.ErrLong)
		}
		wantBytes(t, p.x, before)
		p.check(long[:n+1])
		p.flush()
		p.check()
	}
	p := newPair(t, some)
	p.lay(gone(long[:512]))
	p.check()
	before := encoded(t, p.x)
	wantErr(t, "Drop", p.x.Drop(long[:513]), api.ErrLong)
	wantErr(t, "Drop", p.x.Drop(long), api.ErrLong)
	wantErr(t, "Put", p.x.Put(long[:513], ""), api.ErrLong)
	wantErr(t, "Put", p.x.Put("", long[:513]), api.ErrLong)
	wantErr(t, "Put", p.x.Put(strings.Repeat("a", 1<<20), strings.Repeat("a", 1<<20)), api.ErrLong)
	wantBytes(t, p.x, before)
}

// IX1: what is too long flushes nothing, though Mem entries are ahead.
func TestLongWhenFull(t *testing.T) {
	p := newPair(t, some)
	p.lay(value("a", "x"), value("b", "y"))
	before := encoded(t, p.x)
	wantErr(t, "Put", p.x.Put("c", strings.Repeat("c", 512)), api.ErrLong)
	wantErr(t, "Put", p.x.Put("a", strings.Repeat("c", 512)), api.ErrLong)
	wantErr(t, "Drop", p.x.Drop(strings.Repeat("c", 513)), api.ErrLong)
	wantLevels(t, p.x)
	wantBytes(t, p.x, before)
	p.check()
}

// IX1: with Mem entries ahead, a key that is among them changes these, and one that is not is put behind a flush.
func TestPutWhenFull(t *testing.T) {
	for _, mem := range []int{1, 2, 3, 999, 1000} {
		x := fresh(t, index.Config{Mem: mem, Fan: 16, Part: 7, Bits: 8})
		var want []api.Entry
		for i := range mem {
			wantErr(t, "Put", x.Put(numbered(i), "x"), 0)
			want = append(want, value(numbered(i), "x"))
		}
		wantLevels(t, x)
		for _, i := range []int{0, mem / 2, mem - 1} {
			wantErr(t, "Put", x.Put(numbered(i), "y"), 0)
			want[i].Value = "y"
		}
		wantLevels(t, x)
		wantErr(t, "Drop", x.Drop(numbered(0)), 0)
		wantLevels(t, x)
		wantList(t, "Range", x.Range("", ""), want[1:])
		wantErr(t, "Put", x.Put(numbered(mem), "x"), 0)
		wantLevels(t, x, 1)
		wantList(t, "Range", x.Range("", ""), append(want[1:], value(numbered(mem), "x")))
		for i := range mem - 1 {
			wantErr(t, "Drop", x.Drop(numbered(i)), 0)
		}
		wantLevels(t, x, 1)
		wantErr(t, "Drop", x.Drop("elsewhere"), 0)
		wantLevels(t, x, 2)
	}
}

// IX1: Put and Drop do so whichever of them laid in what is ahead, and whichever comes.
func TestEachWhenFull(t *testing.T) {
	kinds := []func(key string) api.Entry{gone, func(key string) api.Entry { return value(key, "x") }}
	for _, ahead := range kinds {
		for _, next := range kinds {
			p := newPair(t, some)
			p.lay(ahead("a"), ahead("b"), next("b"))
			wantLevels(t, p.x)
			p.check()
			p.lay(next("a"))
			wantLevels(t, p.x)
			p.check()
			p.lay(next("c"))
			wantLevels(t, p.x, 1)
			p.check()
			p.lay(ahead("a"))
			wantLevels(t, p.x, 1)
			p.check()
			p.lay(ahead("b"))
			wantLevels(t, p.x, 2)
			p.check()
		}
	}
}

// IX1: Drop of a key that is not there lays an entry in that is gone.
func TestDropNothing(t *testing.T) {
	p := newPair(t, some)
	p.lay(gone("a"))
	wantNo(t, p.x, "a")
	wantBytes(t, p.x, sealed([]byte("\x00\x02\x00\x01\x00\x02\x00\x08\x01\x01a\x01\x00\x00")))
	p.check("a")
	p.flush()
	wantLevels(t, p.x, 1)
	p.check("a")
	p.lay(gone("a"))
	p.flush()
	wantLevels(t, p.x, 2)
	p.check("a")
}

// IX1: a flush makes the newest table of level 0, and is nothing with no entry ahead.
func TestFlush(t *testing.T) {
	p := newPair(t, most)
	p.lay(value("b", "x"), gone("a"))
	wantLevels(t, p.x)
	p.flush()
	wantLevels(t, p.x, 1)
	p.check("a")
	for range 3 {
		p.flush()
		wantLevels(t, p.x, 1)
		p.check("a")
	}
	p.lay(value("a", "y"), gone("b"))
	p.flush()
	wantLevels(t, p.x, 2)
	wantOnly(t, p.x, value("a", "y"))
	p.check()
	p.lay(value("b", "z"))
	p.flush()
	wantLevels(t, p.x, 3)
	wantOnly(t, p.x, value("a", "y"), value("b", "z"))
	p.check()
}

// IX1: the table of a flush is Build's of Part and Bits, at each edge of these.
func TestFlushPartAndBits(t *testing.T) {
	for _, part := range []int{1, 2, 5, 6, 7, 1000} {
		for _, bits := range []int{1, 2, 63, 64} {
			p := newPair(t, index.Config{Mem: 6, Fan: 1, Part: part, Bits: bits})
			p.layTable(value("a", "x"), gone("b"), value("c", ""), gone("d"), value("e", "y"), value("", "z"))
			p.check("b", "d")
			if p.m.levels[0][0].bytes == nil || !slices.Equal(p.m.levels[0][0].bytes, tableOf(part, bits, value("", "z"), value("a", "x"), gone("b"), value("c", ""), gone("d"), value("e", "y"))) {
				t.Fatalf("the model's table is another one")
			}
		}
	}
}

// IX1: the most that can be ahead is not too much for a table: 1,000 entries of 512 bytes, each a part, with 64 bits.
func TestFlushMost(t *testing.T) {
	x := fresh(t, index.Config{Mem: 1000, Fan: 16, Part: 1, Bits: 64})
	behind := strings.Repeat("k", 508)
	for i := range 1000 {
		wantErr(t, "Put", x.Put(numbered(i)+behind, ""), 0)
	}
	wantErr(t, "Flush", x.Flush(), 0)
	wantLevels(t, x, 1)
	if v, ok := x.Get(numbered(999) + behind); v != "" || !ok {
		t.Fatalf("Get: %q, %v", v, ok)
	}
	for i := range 1001 {
		wantErr(t, "Put", x.Put(numbered(i)+behind[1:], "v"), 0)
	}
	wantLevels(t, x, 2)
}

// IX1: Flush's error, of no index, is Put's and Drop's, too; it comes ahead of ErrLong.
func TestNilIndex(t *testing.T) {
	var x *index.Index
	wantErr(t, "Put", x.Put("a", "b"), api.ErrArg)
	wantErr(t, "Put", x.Put(strings.Repeat("a", 513), ""), api.ErrArg)
	wantErr(t, "Drop", x.Drop("a"), api.ErrArg)
	wantErr(t, "Drop", x.Drop(strings.Repeat("a", 513)), api.ErrArg)
	wantErr(t, "Flush", x.Flush(), api.ErrArg)
	wantNo(t, x, "", "a")
	wantOnly(t, x)
	if l := x.Levels(); len(l) != 0 {
		t.Fatalf("Levels: %v", l)
	}
	wantHeld(t, x, 0)
	wantNoJob(t, x, api.ErrArg)
	if v := x.View(); v != nil {
		t.Fatalf("View: %v", v)
	}
	b, err := x.Encode()
	if wantErr(t, "Encode", err, api.ErrArg); b != nil {
		t.Fatalf("Encode: % x", b)
	}
}

// deep is an index with something ahead and in three levels of several tables, of which one is empty.
func deep() *model {
	m := modelOf(index.Config{Mem: 4, Fan: 3, Part: 2, Bits: 8})
	m.ahead = map[string]api.Entry{"a": value("a", "0"), "b": gone("b"), "h": gone("h")}
	m.levels = [][]*sheet{
		{sheetOf(2, 8, value("a", "1"), value("b", "1"), value("c", "1")), sheetOf(1, 9, gone("c"), gone("d"))},
		{sheetOf(3, 3, value("c", "3"), value("d", "3"), value("e", "3"), value("f", "3")), sheetOf(2, 8, gone("f"), value("g", "4"))},
		nil,
		{sheetOf(2, 1, value("", "5"), value("d", "5"), value("f", "5"), value("g", "5"), value("h", "5"), value("i", "5"))},
	}
	return m
}

// IX1: of a key the first that has it counts: ahead of the tables, level by level, the newest table of each first; one that is gone there is not there.
func TestGet(t *testing.T) {
	x := pairOf(t, deep()).x
	wantOnly(t, x, value("", "5"), value("a", "0"), value("c", "1"), value("e", "3"), value("f", "3"), value("g", "4"), value("i", "5"))
	wantNo(t, x, "b", "d", "h", "a\x00", "j", "\xff")
	wantLevels(t, x, 2, 2, 0, 1)
	p := pairOf(t, deep())
	p.check("b", "d", "h")
	p.lay(gone("a"), value("d", "0"), value("h", "0"))
	p.check("b")
	p.lay(gone("c"), gone(""))
	p.check("b")
	wantOnly(t, p.x, value("d", "0"), value("e", "3"), value("f", "3"), value("g", "4"), value("h", "0"), value("i", "5"))
}

// IX1: Range tells those from a key on, up to another one, the empty one being the end: each two of many keys.
func TestRange(t *testing.T) {
	all := []api.Entry{value("", "5"), value("a", "0"), value("c", "1"), value("e", "3"), value("f", "3"), value("g", "4"), value("i", "5")}
	x := pairOf(t, deep()).x
	keys := []string{"", "\x00", "A", "a", "a\x00", "b", "c", "c\xff", "d", "e", "f", "f\x00", "g", "h", "i", "i\x00", "j", "\xff", "\xff\xff"}
	for _, from := range keys {
		for _, to := range keys {
			var want []api.Entry
			for _, e := range all {
				if e.Key >= from && (to == "" || e.Key < to) {
					want = append(want, e)
				}
			}
			wantList(t, "Range from "+from+" to "+to, x.Range(from, to), want)
		}
	}
	wantList(t, "Range", x.Range("c", "g"), all[2:5])
	wantList(t, "Range", x.Range("b", "h"), all[2:6])
	wantList(t, "Range", x.Range("f", ""), all[4:])
	wantList(t, "Range", x.Range("g", "c"), nil)
	wantList(t, "Range", x.Range("c", "c"), nil)
}

// IX1: Range finds its place among parts of any size.
func TestRangeOfParts(t *testing.T) {
	var l []api.Entry
	for i := range 23 {
		l = append(l, value(string([]byte{byte('a' + i)}), "x"))
	}
	for _, part := range []int{1, 2, 3, 7, 22, 23, 24, 1000} {
		p := newPair(t, index.Config{Mem: 23, Fan: 1, Part: part, Bits: 4})
		p.layTable(l...)
		for from := range l {
			for to := range l {
				wantList(t, "Range", p.x.Range(l[from].Key, l[to].Key), l[min(from, to):to])
				wantList(t, "Range", p.x.Range(l[from].Key+"\x00", l[to].Key+"\x00"), l[min(from, to)+1:to+1])
			}
			wantList(t, "Range", p.x.Range(l[from].Key, ""), l[from:])
			wantList(t, "Range", p.x.Range("", l[from].Key), l[:from])
		}
		p.check()
	}
}

// IX1: there are as many levels as have a table, or a deeper one has one.
func TestLevels(t *testing.T) {
	table := func() *sheet { return sheetOf(2, 8, value("a", "")) }
	for _, want := range [][]int{nil, {1}, {5}, {0, 1}, {2, 1}, {0, 0, 0, 2}, {1, 0, 3, 0, 1}} {
		m := modelOf(some)
		for _, n := range want {
			var level []*sheet
			for range n {
				level = append(level, table())
			}
			m.levels = append(m.levels, level)
		}
		p := pairOf(t, m)
		wantLevels(t, p.x, want...)
		p.check()
		p.layTable(value("b", ""))
		if len(want) == 0 {
			want = []int{0}
		}
		want[0]++
		wantLevels(t, p.x, want...)
		p.check()
	}
}
