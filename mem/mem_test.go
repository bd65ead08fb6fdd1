package mem_test

import (
	"math/rand"
	"slices"
	"strconv"
	"strings"
	"testing"

	"drydock/api"
	"drydock/mem"
)

// The calls as the chapter lists them.
var (
	_ func() *mem.Mem                               = mem.New
	_ func(*mem.Mem, api.Entry)                     = (*mem.Mem).Put
	_ func(*mem.Mem, string) (api.Entry, bool)      = (*mem.Mem).Get
	_ func(*mem.Mem) int                            = (*mem.Mem).Len
	_ func(*mem.Mem) int                            = (*mem.Mem).Size
	_ func(*mem.Mem) []api.Entry                    = (*mem.Mem).Entries
	_ func(m *mem.Mem, from, to string) []api.Entry = (*mem.Mem).Range
	_ func(*mem.Mem)                                = (*mem.Mem).Clear
)

// ordered are keys in order: the empty one, those that begin others, and bytes of 0, 127, 128 and 255, also such as are no text.
var ordered = []string{
	"", "\x00", "\x00\x00", "\x00\x00\x01", "\x00\x01", "\x00\xff", "\x01", "\x01\x00", "0", "00", "1", "10", "2", "9", "A", "B", "Z",
	"a", "a\x00", "a\x00b", "a\x01", "aa", "aab", "ab", "abc", "abd", "ac", "a\x7f", "a\x80", "a\xff", "a\xff\xff", "b", "ba", "z", "{", "\x7f", "\x7f\xff",
	"\x80", "\x80\x00", "\xc3", "\xc3\xa9", "\xe2\x82\xac", "\xef\xbf\xbd", "\xf0\x9f\x9a\xa2", "\xfe", "\xfe\xff", "\xff", "\xff\x00", "\xff\xfe", "\xff\xff", "\xff\xff\xff",
}

// laid are entries of all keys in order, each with a value of its own; each third one is gone.
func laid() []api.Entry {
	var l []api.Entry
	for i, key := range ordered {
		if i%3 == 2 {
			l = append(l, gone(key))
		} else {
			l = append(l, value(key, strconv.Itoa(i)))
		}
	}
	return l
}

// ME1: the chapter's example.
func TestExample(t *testing.T) {
	wantEntries(t, filled(value("b", "x"), value("a", ""), gone("b")), value("a", ""), gone("b"))
}

// ME1: where nothing was put, nothing is there.
func TestNothingPut(t *testing.T) {
	m := mem.New()
	for range 2 {
		wantEntries(t, m)
		wantNone(t, m, ordered...)
		for _, from := range ordered {
			wantRange(t, m, from, "")
			wantRange(t, m, "", from)
		}
		m.Clear()
	}
}

// ME1: one key, whichever: with a value, with none, gone.
func TestOneKey(t *testing.T) {
	for _, key := range append(slices.Clone(ordered), strings.Repeat("\xff", 5000)) {
		for _, e := range []api.Entry{value(key, "x"), value(key, ""), value(key, key), value(key, "\x00\xff"), value(key, strings.Repeat("v", 5000)), gone(key)} {
			m := filled(e)
			wantEntries(t, m, e)
			wantNone(t, m, key+"\x00", "other", "\x00"+key)
			if len(key) > 0 {
				wantNone(t, m, key[:len(key)-1])
			}
		}
	}
}

// ME1: the empty key is a key, and the empty value a value: neither is gone, nor missing.
func TestEmptyKeyAndValue(t *testing.T) {
	m := filled(value("a", "x"))
	wantNone(t, m, "")
	m.Put(value("", ""))
	wantEntries(t, m, value("", ""), value("a", "x"))
	m.Put(value("a", ""))
	wantEntries(t, m, value("", ""), value("a", ""))
	m.Put(value("", "y"))
	wantEntries(t, m, value("", "y"), value("a", ""))
	m.Put(gone(""))
	wantEntries(t, m, gone(""), value("a", ""))
}

// ME1: all keys stand in order byte by byte, in whichever order they came.
func TestInOrder(t *testing.T) {
	rnd := rand.New(rand.NewSource(1))
	want := laid()
	wantEntries(t, filled(want...), want...)
	back := slices.Clone(want)
	slices.Reverse(back)
	wantEntries(t, filled(back...), want...)
	for range 300 {
		rnd.Shuffle(len(back), func(i, j int) { back[i], back[j] = back[j], back[i] })
		n := rnd.Intn(len(back) + 1)
		some := slices.DeleteFunc(slices.Clone(want), func(e api.Entry) bool { return !slices.Contains(back[:n], e) })
		wantEntries(t, filled(back[:n]...), some...)
	}
}

// ME1: all keys of one byte stand in order, and so do those that go on with a byte of 0, of 255, or one between.
func TestInOrderOfAllBytes(t *testing.T) {
	m := mem.New()
	for c := 255; c >= 0; c-- {
		for _, behind := range []string{"\xff", "\x00", "\x7f", "\x80"} {
			m.Put(gone(string([]byte{byte(c)}) + behind))
		}
		m.Put(value(string([]byte{byte(c)}), "one"))
	}
	var want []api.Entry
	for c := range 256 {
		key := string([]byte{byte(c)})
		want = append(want, value(key, "one"), gone(key+"\x00"), gone(key+"\x7f"), gone(key+"\x80"), gone(key+"\xff"))
	}
	wantEntries(t, m, want...)
}

// ME1: a key put twice is there once: with another value, gone, and back again.
func TestPutTwice(t *testing.T) {
	for _, key := range ordered {
		ahead, behind := value(key+"\x00", "behind"), gone(key+"\xff")
		m := filled(behind, ahead)
		for _, e := range []api.Entry{value(key, "one"), value(key, "one"), value(key, "two"), value(key, ""), value(key, "three"), gone(key), gone(key), value(key, "four"), gone(key), value(key, ""), value(key, strings.Repeat(key, 9))} {
			m.Put(e)
			wantEntries(t, m, e, ahead, behind)
		}
	}
}

// ME1: an entry that is gone has no value, whatever it comes with.
func TestGoneHasNoValue(t *testing.T) {
	for _, key := range ordered {
		for _, v := range []string{"", "x", "\x00", key, strings.Repeat("v", 5000)} {
			odd := api.Entry{Key: key, Value: v, Gone: true}
			wantEntries(t, filled(odd), gone(key))
			wantEntries(t, filled(value(key, "old"), odd), gone(key))
			wantEntries(t, filled(odd, odd), gone(key))
			wantEntries(t, filled(odd, value(key, v)), value(key, v))
			wantRange(t, filled(odd), key, key+"\x00", gone(key))
		}
	}
}

// ME1: Get of keys that are there, gone, and not there: keys beside one that is there are not it.
func TestGet(t *testing.T) {
	m := filled(value("b", "x"), gone("d"), value("f", ""), value("ff", "y"))
	wantGet(t, m, value("b", "x"))
	wantGet(t, m, gone("d"))
	wantGet(t, m, value("f", ""))
	wantGet(t, m, value("ff", "y"))
	wantNone(t, m, "", "a", "a\xff", "b\x00", "bb", "B", "c", "d\x00", "e", "f\x00", "fe", "f\xff", "fff", "g", "\xff", "x")
}

// ME1: Len and Size behind each Put, of new keys and of such as are written over or gone.
func TestLenAndSize(t *testing.T) {
	m := mem.New()
	wantSize(t, m, 0, 0)
	for i, c := range []struct {
		e          api.Entry
		many, size int
	}{
		{value("ab", "xyz"), 1, 5},
		{value("", ""), 2, 5},
		{value("ab", "xyz"), 2, 5},
		{value("ab", "x"), 2, 3},
		{value("", "12"), 2, 5},
		{value("abc", ""), 3, 8},
		{gone("ab"), 3, 7},
		{gone("ab"), 3, 7},
		{api.Entry{Key: "abc", Value: "123456", Gone: true}, 3, 7},
		{gone("d"), 4, 8},
		{value("d", strings.Repeat("v", 1000)), 4, 1008},
		{value("\xc3\xa9", "\xe2\x82\xac"), 5, 1013}, // bytes, not runes
		{gone("d"), 5, 13},
		{value("ab", "back"), 5, 17},
		{gone(""), 5, 15},
		{value(strings.Repeat("k", 500), "v"), 6, 516},
	} {
		m.Put(c.e)
		if m.Len() != c.many || m.Size() != c.size {
			t.Fatalf("behind Put %d: Len %d, Size %d, want %d, %d", i, m.Len(), m.Size(), c.many, c.size)
		}
	}
}

// ME1: the last of a Range is below to, the first is not below from; neither has to be there.
func TestRange(t *testing.T) {
	b, d, dd, f := value("b", "x"), gone("d"), value("dd", ""), value("f", "y")
	m := filled(f, dd, b, d)
	for _, c := range []struct {
		from, to string
		want     []api.Entry
	}{
		{"", "", []api.Entry{b, d, dd, f}},
		{"", "a", nil},
		{"", "b", nil},
		{"", "b\x00", []api.Entry{b}},
		{"", "c", []api.Entry{b}},
		{"", "d", []api.Entry{b}},
		{"", "d\x00", []api.Entry{b, d}},
		{"", "dd", []api.Entry{b, d}},
		{"", "f", []api.Entry{b, d, dd}},
		{"", "g", []api.Entry{b, d, dd, f}},
		{"a", "", []api.Entry{b, d, dd, f}},
		{"a", "c", []api.Entry{b}},
		{"b", "", []api.Entry{b, d, dd, f}},
		{"b", "d", []api.Entry{b}},
		{"b", "e", []api.Entry{b, d, dd}},
		{"b", "f", []api.Entry{b, d, dd}},
		{"b\x00", "f", []api.Entry{d, dd}},
		{"c", "", []api.Entry{d, dd, f}},
		{"c", "d", nil},
		{"c", "d\x00", []api.Entry{d}},
		{"d", "dd", []api.Entry{d}},
		{"dd", "dd\x00", []api.Entry{dd}},
		{"d\xff", "e", nil},
		{"e", "f\xff", []api.Entry{f}},
		{"f", "", []api.Entry{f}},
		{"f\x00", "", nil},
		{"g", "", nil},
		{"\xff", "", nil},
		{"b", "b", nil},
		{"c", "c", nil},
		{"f", "f", nil},
		{"f", "b", nil},
		{"dd", "d", nil},
		{"g", "a", nil},
		{"e", "c", nil},
	} {
		wantRange(t, m, c.from, c.to, c.want...)
	}
}

// ME1: Range from each key to each other one, of all of them and of each second one, is as many of the order as are between.
func TestRangeOfEach(t *testing.T) {
	all := laid()
	for _, step := range []int{1, 2} {
		m := mem.New()
		for i := 0; i < len(all); i += step {
			m.Put(all[i])
		}
		for i, from := range ordered {
			wantRange(t, m, from, "", each(all, i, len(all), step)...)
			for j, to := range ordered[1:] {
				wantRange(t, m, from, to, each(all, i, j+1, step)...)
			}
		}
	}
}

// each are the entries from one place up to another one, those alone whose place is a multiple of step.
func each(l []api.Entry, from, to, step int) []api.Entry {
	var some []api.Entry
	for i := from; i < to; i++ {
		if i%step == 0 {
			some = append(some, l[i])
		}
	}
	return some
}

// ME1: Clear drops all, and what is put behind it is there alone.
func TestClear(t *testing.T) {
	rnd := rand.New(rand.NewSource(2))
	m := mem.New()
	for range 300 {
		l := anyEntries(rnd, rnd.Intn(20))
		for _, e := range l {
			m.Put(e)
		}
		wantEntries(t, m, modelOf(l...).between("", "")...)
		for range 1 + rnd.Intn(2) {
			m.Clear()
			wantEntries(t, m)
			for _, e := range l {
				wantNone(t, m, e.Key)
				wantRange(t, m, e.Key, "")
			}
		}
	}
	m.Put(gone("a"))
	m.Clear()
	m.Put(value("b", "x"))
	wantEntries(t, m, value("b", "x"))
	wantNone(t, m, "a")
}
