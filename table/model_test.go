package table_test

import (
	"encoding/binary"
	"errors"
	"math/bits"
	"math/rand"
	"slices"
	"sort"
	"testing"

	"drydock/api"
	"drydock/table"
)

const (
	mostEntries = 1 << 14
	mostPart    = 1000
	mostBits    = 64
	modulus     = 1<<31 - 1
)

// sumOf is the remainder of the number whose digits are 1 and these bytes.
func sumOf(b []byte) uint64 {
	n := uint64(1)
	for _, c := range b {
		n = (n*257 + uint64(c)) % modulus
	}
	return n
}

// sealed is bytes and their sum.
func sealed(b []byte) []byte {
	return binary.LittleEndian.AppendUint32(slices.Clone(b), uint32(sumOf(b)))
}

// number is a number as bytes, the first of which tells how many more there are.
func number(n uint64) []byte {
	more := max(bits.Len64(n)-1, 0) / 7
	if more >= 8 {
		return binary.BigEndian.AppendUint64([]byte{255}, n)
	}
	b := binary.BigEndian.AppendUint64(nil, n)[7-more:]
	b[0] |= byte(255) << (8 - more)
	return b
}

// text is a text as bytes.
func text(s string) []byte { return slices.Concat(number(uint64(len(s))), []byte(s)) }

// bare are a part's bytes ahead of their sum.
func bare(l ...api.Entry) []byte {
	b := number(uint64(len(l)))
	for _, e := range l {
		b = append(b, text(e.Key)...)
		if e.Gone {
			b = append(b, 1, 0)
			continue
		}
		b = append(append(b, 0), text(e.Value)...)
	}
	return b
}

// partOf are a part's bytes.
func partOf(l ...api.Entry) []byte { return sealed(bare(l...)) }

// asked are the bits that a key asks a filter for.
func asked(size int, key string) []int {
	a, b := sumOf([]byte(key)), sumOf([]byte("\x01"+key))
	var l []int
	for i := range uint64(3) {
		l = append(l, int((a+i*b)%uint64(size)))
	}
	return l
}

// filterOf are the bytes of the filter of keys.
func filterOf(size int, keys ...string) []byte {
	set := make([]byte, (size+7)/8)
	for _, key := range keys {
		for _, n := range asked(size, key) {
			set[n/8] |= 1 << (n % 8)
		}
	}
	return slices.Concat(number(uint64(size)), number(3), text(string(set)))
}

// may tells whether the filter of entries has a key.
func may(l []api.Entry, bits int, key string) bool {
	set := map[int]bool{}
	for _, e := range l {
		for _, n := range asked(bits*len(l), e.Key) {
			set[n] = true
		}
	}
	return !slices.ContainsFunc(asked(bits*len(l), key), func(n int) bool { return !set[n] })
}

// form is what a table's bytes tell: its fields are changed where they are to be wrong.
type form struct {
	entries, parts uint64
	firsts         []string
	pieces         [][]byte
	last           string
	filter         []byte
	behind         []byte
}

// formOf is a table's, told without the program.
func formOf(l []api.Entry, part, bits int) form {
	f := form{entries: uint64(len(l)), last: l[len(l)-1].Key, filter: filterOf(bits*len(l), keysOf(l)...)}
	for _, some := range cut(l, part) {
		f.parts++
		f.firsts = append(f.firsts, some[0].Key)
		f.pieces = append(f.pieces, partOf(some...))
	}
	return f
}

// bare are the bytes of a form ahead of their sum.
func (f form) bare() []byte {
	b := append(number(f.entries), number(f.parts)...)
	for i, first := range f.firsts {
		b = append(append(b, text(first)...), text(string(f.pieces[i]))...)
	}
	b = append(append(b, text(f.last)...), text(string(f.filter))...)
	return append(b, f.behind...)
}

// bytes are the bytes of a form.
func (f form) bytes() []byte { return sealed(f.bare()) }

// cut is entries in parts of so many.
func cut(l []api.Entry, part int) [][]api.Entry {
	var parts [][]api.Entry
	for len(l) > part {
		parts, l = append(parts, l[:part]), l[part:]
	}
	return append(parts, l)
}

// keysOf are the keys of entries.
func keysOf(l []api.Entry) []string {
	var keys []string
	for _, e := range l {
		keys = append(keys, e.Key)
	}
	return keys
}

// told are entries as a table tells them: one that is gone has no value.
func told(l []api.Entry) []api.Entry {
	l = slices.Clone(l)
	for i := range l {
		if l[i].Gone {
			l[i].Value = ""
		}
	}
	return l
}

// put are entries of these keys without values.
func put(keys ...string) []api.Entry {
	var l []api.Entry
	for _, key := range keys {
		l = append(l, api.Entry{Key: key})
	}
	return l
}

// anyKey is picked by rnd: some are empty or short, so that many are alike, and some are long.
func anyKey(rnd *rand.Rand) string {
	b := make([]byte, []int{rnd.Intn(2), 1, 2, 2, 3, 32, rnd.Intn(60)}[rnd.Intn(7)])
	rnd.Read(b)
	for i := range b {
		if len(b) < 4 {
			b[i] = "\x00\x01abcdefghijklmnopq\x7f\x80\xff"[rnd.Intn(22)]
		}
	}
	return string(b)
}

// anyEntries are at most so many, but one at least, in order, some of them gone, of these some with a value.
func anyEntries(rnd *rand.Rand, most int) []api.Entry {
	var l []api.Entry
	for range 1 + rnd.Intn(most) {
		l = append(l, api.Entry{Key: anyKey(rnd), Value: anyKey(rnd), Gone: rnd.Intn(3) == 0})
	}
	sort.Slice(l, func(i, j int) bool { return l[i].Key < l[j].Key })
	return slices.CompactFunc(l, func(a, b api.Entry) bool { return a.Key == b.Key })
}

// many are so many entries in order.
func many(n int) []api.Entry {
	var l []api.Entry
	for i := range n {
		l = append(l, api.Entry{Key: string([]byte{byte(i >> 8), byte(i)}), Value: string([]byte{byte(i)}), Gone: i%7 == 3})
	}
	return l
}

// near are keys about those of entries: they themselves, those just above and below, and some far off.
func near(l []api.Entry) []string {
	keys := []string{"", "\x00", "\xff", "\xff\xff\xff\xff", "a", "b"}
	for _, e := range l {
		keys = append(keys, e.Key, e.Key+"\x00", e.Key+"\xff")
		if n := len(e.Key); n > 0 {
			keys = append(keys, e.Key[:n-1])
			if c := e.Key[n-1]; c > 0 {
				keys = append(keys, e.Key[:n-1]+string([]byte{c - 1})+"\xff", e.Key[:n-1]+string([]byte{c - 1}))
			}
		}
	}
	return keys
}

// wantErr checks which number an error has; 0 is none.
func wantErr(t *testing.T, what string, err error, want api.Errno) {
	t.Helper()
	var got api.Errno
	if err != nil && !errors.As(err, &got) {
		t.Fatalf("%s: an error without a number: %v", what, err)
	}
	if got != want {
		t.Fatalf("%s: error %d, want %d", what, got, want)
	}
}

// built are the bytes of a table.
func built(t *testing.T, l []api.Entry, part, bits int) []byte {
	t.Helper()
	b, err := table.Build(l, part, bits)
	if err != nil {
		t.Fatalf("Build of %d entries, %d, %d: %v", len(l), part, bits, err)
	}
	return b
}

// wantNoBuild checks that there is no such table.
func wantNoBuild(t *testing.T, l []api.Entry, part, bits int, want api.Errno) {
	t.Helper()
	b, err := table.Build(l, part, bits)
	if wantErr(t, "Build", err, want); b != nil {
		t.Fatalf("Build of %d entries, %d, %d: bytes beside an error", len(l), part, bits)
	}
}

// opened is the table of bytes.
func opened(t *testing.T, b []byte) *table.Table {
	t.Helper()
	x, err := table.Open(b)
	if err != nil || x == nil {
		t.Fatalf("Open of %d bytes, % x: %v, %v", len(b), b[:min(len(b), 50)], x, err)
	}
	return x
}

// made is the table of entries.
func made(t *testing.T, l []api.Entry, part, bits int) *table.Table {
	t.Helper()
	return opened(t, built(t, l, part, bits))
}

// wantNoOpen checks that bytes are no table's.
func wantNoOpen(t *testing.T, b []byte, want api.Errno) {
	t.Helper()
	x, err := table.Open(b)
	if wantErr(t, "Open", err, want); x != nil {
		t.Fatalf("Open of %d bytes, % x: a table beside an error", len(b), b[:min(len(b), 50)])
	}
}

// wantList checks entries.
func wantList(t *testing.T, what string, got, want []api.Entry) {
	t.Helper()
	if !slices.Equal(got, want) {
		t.Fatalf("%s: %d, %#v, want %d, %#v", what, len(got), got[:min(len(got), 9)], len(want), want[:min(len(want), 9)])
	}
}

// wantPart checks a part's entries.
func wantPart(t *testing.T, x *table.Table, i int, want ...api.Entry) {
	t.Helper()
	l, err := x.Part(i)
	wantErr(t, "Part", err, 0)
	wantList(t, "Part", l, want)
}

// wantNoPart checks that a part has no entries to be told.
func wantNoPart(t *testing.T, x *table.Table, i int, want api.Errno) {
	t.Helper()
	l, err := x.Part(i)
	if wantErr(t, "Part", err, want); l != nil {
		t.Fatalf("Part(%d): %#v beside an error", i, l)
	}
}

// wantAll checks all entries.
func wantAll(t *testing.T, x *table.Table, want ...api.Entry) {
	t.Helper()
	l, err := x.Entries()
	wantErr(t, "Entries", err, 0)
	wantList(t, "Entries", l, want)
}

// wantFind checks in which part a key would be.
func wantFind(t *testing.T, x *table.Table, key string, want int) {
	t.Helper()
	if got := x.Find(key); got != want {
		t.Fatalf("Find(%q): %d, want %d", key, got, want)
	}
}

// wantGet checks a key's entry.
func wantGet(t *testing.T, x *table.Table, want api.Entry) {
	t.Helper()
	if e, ok, err := x.Get(want.Key); e != want || !ok || err != nil {
		t.Fatalf("Get(%q): %#v, %v, %v, want %#v", want.Key, e, ok, err, want)
	}
}

// wantNoGet checks that a key has no entry, and which error tells it; 0 is none.
func wantNoGet(t *testing.T, x *table.Table, key string, want api.Errno) {
	t.Helper()
	e, ok, err := x.Get(key)
	if wantErr(t, "Get", err, want); e != (api.Entry{}) || ok {
		t.Fatalf("Get(%q): %#v, %v", key, e, ok)
	}
}

// wantEnds checks what is told of a table as a whole.
func wantEnds(t *testing.T, x *table.Table, entries, parts int, first, last string) {
	t.Helper()
	if n := x.Len(); n != entries {
		t.Fatalf("Len: %d, want %d", n, entries)
	}
	if n := x.Parts(); n != parts {
		t.Fatalf("Parts: %d, want %d", n, parts)
	}
	if a, b := x.First(), x.Last(); a != first || b != last {
		t.Fatalf("First, Last: %q, %q, want %q, %q", a, b, first, last)
	}
}

// place is where a key would be, told without the program.
func place(l []api.Entry, part, bits int, key string) int {
	if !may(l, bits, key) || key < l[0].Key || key > l[len(l)-1].Key {
		return -1
	}
	at := -1
	for i, some := range cut(l, part) {
		if some[0].Key <= key {
			at = i
		}
	}
	return at
}

// wantKey checks what a table of entries has of a key.
func wantKey(t *testing.T, x *table.Table, l []api.Entry, part, bits int, key string) {
	t.Helper()
	wantFind(t, x, key, place(l, part, bits, key))
	for _, e := range told(l) {
		if e.Key == key {
			wantGet(t, x, e)
			return
		}
	}
	wantNoGet(t, x, key, 0)
}

// wantAs checks that a table has these entries, in parts of so many, and nothing else.
func wantAs(t *testing.T, x *table.Table, l []api.Entry, part, bits int) {
	t.Helper()
	parts := cut(told(l), part)
	wantEnds(t, x, len(l), len(parts), l[0].Key, l[len(l)-1].Key)
	for i, some := range parts {
		wantPart(t, x, i, some...)
	}
	wantNoPart(t, x, -1, api.ErrRange)
	wantNoPart(t, x, len(parts), api.ErrRange)
	wantAll(t, x, told(l)...)
	wantFilter(t, x, formOf(l, part, bits).filter)
}
