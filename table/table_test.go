package table_test

import (
	"bytes"
	"fmt"
	"math"
	"math/rand"
	"slices"
	"strings"
	"testing"

	"drydock/api"
	"drydock/bloom"
	"drydock/table"
)

// The calls as the chapter lists them.
var (
	_ func(l []api.Entry, part, bits int) ([]byte, error) = table.Build
	_ func(b []byte) (*table.Table, error)                = table.Open
	_ func(*table.Table) int                              = (*table.Table).Len
	_ func(*table.Table) int                              = (*table.Table).Parts
	_ func(*table.Table, int) ([]api.Entry, error)        = (*table.Table).Part
	_ func(*table.Table, string) int                      = (*table.Table).Find
	_ func(*table.Table, string) (api.Entry, bool, error) = (*table.Table).Get
	_ func(*table.Table) ([]api.Entry, error)             = (*table.Table).Entries
	_ func(*table.Table) string                           = (*table.Table).First
	_ func(*table.Table) string                           = (*table.Table).Last
	_ func(*table.Table) *bloom.Filter                    = (*table.Table).Filter
)

// known are tables' bytes that are known.
var known = []struct {
	l          []api.Entry
	part, bits int
	want       string
}{
	{put("a"), 1, 1, "\x01\x01\x01\x61\x09\x01\x01\x61\x00\x00\x70\xd0\x74\x0f\x01\x61\x04\x01\x03\x01\x01\x85\x8e\xdb\x40"},
	{put(""), 1000, 64, "\x01\x01\x00\x08\x01\x00\x00\x00\x04\x07\x09\x05\x00\x0b\x40\x03\x08\x2a\x00\x00\x00\x00\x00\x00\x00\xf2\x47\xf2\x77"},
	{put("a", "b", "c"), 2, 8, "\x03\x02\x01\x61\x0d\x02\x01\x61\x00\x00\x01\x62\x00\x00\xbd\xd1\x76\x6e\x01\x63\x09\x01\x01\x63\x00\x00\x72\xd4\x76\x0f\x01\x63\x06\x18\x03\x03\x00\xe9\x1e\x58\x5e\xe9\x17"},
	{[]api.Entry{{Key: "a"}, {Key: "b", Value: "x"}, {Key: "c", Gone: true}}, 3, 5, "\x03\x01\x01\x61\x12\x03\x01\x61\x00\x00\x01\x62\x00\x01\x78\x01\x63\x01\x00\xf4\x39\x69\x59\x01\x63\x05\x0f\x03\x02\xa0\x0f\xeb\x95\x2e\x67"},
	{[]api.Entry{{Key: "a"}, {Key: "b", Value: "x"}, {Key: "c", Value: "y", Gone: true}}, 1, 1, "\x03\x03\x01\x61\x09\x01\x01\x61\x00\x00\x70\xd0\x74\x0f\x01\x62\x0a\x01\x01\x62\x00\x01\x78\x09\x45\x48\x05\x01\x63\x09\x01\x01\x63\x01\x00\x73\xd5\x76\x0f\x01\x63\x04\x03\x03\x01\x07\x85\x25\x44\x43"},
	{[]api.Entry{{}, {Key: "\x00", Value: "y"}, {Key: "\xff\xff", Gone: true}}, 2, 4, "\x03\x02\x00\x0d\x02\x00\x00\x00\x01\x00\x00\x01\x79\xc2\x00\x7c\x31\x02\xff\xff\x0a\x01\x02\xff\xff\x01\x00\x31\x1f\x28\x29\x02\xff\xff\x05\x0c\x03\x02\xa2\x08\xfe\x3a\x5b\x66"},
}

// wantBuild checks a table's bytes.
func wantBuild(t *testing.T, l []api.Entry, part, bits int, want []byte) {
	t.Helper()
	if b := built(t, l, part, bits); !bytes.Equal(b, want) {
		t.Fatalf("Build(%#v, %d, %d): %d bytes, % x, want %d, % x", l[:min(len(l), 9)], part, bits, len(b), b[:min(len(b), 60)], len(want), want[:min(len(want), 60)])
	}
}

// TB1: tables' bytes that are known: of one entry, of an empty key, of one part and two, of parts of one entry, of entries that are gone, with a value and without.
func TestBuild(t *testing.T) {
	for _, c := range known {
		wantBuild(t, c.l, c.part, c.bits, []byte(c.want))
		wantBuild(t, c.l, c.part, c.bits, formOf(c.l, c.part, c.bits).bytes())
	}
}

// TB1: of the example there are two parts, the first keys a and c.
func TestExample(t *testing.T) {
	l := put("a", "b", "c")
	x := made(t, l, 2, 8)
	wantEnds(t, x, 3, 2, "a", "c")
	wantPart(t, x, 0, l[:2]...)
	wantPart(t, x, 1, l[2:]...)
	f := form{entries: 3, parts: 2, firsts: []string{"a", "c"}, pieces: [][]byte{partOf(l[:2]...), partOf(l[2])}, last: "c", filter: filterOf(24, "a", "b", "c")}
	wantBuild(t, l, 2, 8, f.bytes())
}

// TB1: each part has as many entries as asked for, but the last one, which may be full or have fewer.
func TestBuildParts(t *testing.T) {
	for n := 1; n <= 13; n++ {
		for part := 1; part <= 15; part++ {
			for _, bits := range []int{1, 3, mostBits} {
				l := many(n)
				wantBuild(t, l, part, bits, formOf(l, part, bits).bytes())
				wantAs(t, made(t, l, part, bits), l, part, bits)
			}
		}
	}
	for _, n := range []int{999, 1000, 1001, 1999, 2000, 2001} {
		for _, part := range []int{1, 2, 999, mostPart} {
			l := many(n)
			wantBuild(t, l, part, 2, formOf(l, part, 2).bytes())
			wantAs(t, made(t, l, part, 2), l, part, 2)
		}
	}
}

// TB1: any entries make the bytes that the model tells.
func TestBuildOfAny(t *testing.T) {
	rnd := rand.New(rand.NewSource(1))
	for range 2000 {
		l, part, bits := anyEntries(rnd, 40), 1+rnd.Intn(45), 1+rnd.Intn(mostBits)
		wantBuild(t, l, part, bits, formOf(l, part, bits).bytes())
	}
}

// TB1: an entry that is gone has no value, whatever it comes with.
func TestBuildGone(t *testing.T) {
	l := []api.Entry{{Key: "a", Value: "x", Gone: true}, {Key: "b", Value: "y"}, {Key: "c", Value: strings.Repeat("z", api.MaxBlob+1), Gone: true}}
	for part := 1; part <= 3; part++ {
		wantBuild(t, l, part, 7, built(t, told(l), part, 7))
		wantAll(t, made(t, l, part, 7), api.Entry{Key: "a", Gone: true}, l[1], api.Entry{Key: "c", Gone: true})
	}
}

// TB1: of no entries, of parts below 1 and above 1,000, of bits below 1 and above 64 there is no table.
func TestBuildArg(t *testing.T) {
	l := put("a", "b", "c")
	wrong := []int{math.MinInt, math.MinInt32, -1 << 16, -1000, -64, -2, -1, 0, 1 << 14, 1 << 16, math.MaxInt32, 1 << 32, 1<<32 + 1, math.MaxInt - 1, math.MaxInt}
	for _, bits := range []int{1, 2, 63, mostBits} {
		for _, part := range []int{1, 2, 999, mostPart} {
			built(t, l, part, bits)
			wantNoBuild(t, nil, part, bits, api.ErrArg)
			wantNoBuild(t, []api.Entry{}, part, bits, api.ErrArg)
		}
		for _, part := range append(wrong, mostPart+1, mostPart+2) {
			wantNoBuild(t, l, part, bits, api.ErrArg)
		}
	}
	for _, bits := range append(wrong, mostBits+1, mostBits+2, mostPart) {
		for _, part := range append(wrong, 1, 2, mostPart) {
			wantNoBuild(t, l, part, bits, api.ErrArg)
			wantNoBuild(t, nil, part, bits, api.ErrArg)
		}
	}
}

// TB1: keys that are the same, or go down, wherever, make no table.
func TestBuildOrder(t *testing.T) {
	for _, keys := range [][]string{{"", ""}, {"a", "a"}, {"a", ""}, {"b", "a"}, {"ab", "a"}, {"\xff", "\x7f"}, {"\x80", "\x7f"}, {"a\x00", "a"}, {"a", "b", "b"}, {"a", "c", "b"}, {"a", "a", "b"}, {"b", "a", "c"}, {"a", "b", "a"}} {
		for part := 1; part <= 3; part++ {
			wantNoBuild(t, put(keys...), part, 8, api.ErrOrder)
		}
	}
	for _, keys := range [][]string{{"", "\x00"}, {"a", "a\x00"}, {"\x7f", "\x80"}, {"A", "a"}, {"a", "ab", "b"}, {"\x00", "\x00\x00"}, {"\xc3\xa9", "\xff"}} {
		wantAs(t, made(t, put(keys...), 1, 8), put(keys...), 1, 8)
	}
	for n := 1; n < 25; n++ {
		same, down := many(25), many(25)
		same[n].Key = same[n-1].Key
		down[n].Key, down[n-1].Key = down[n-1].Key, down[n].Key
		for _, part := range []int{1, 2, 5, 25, mostPart} {
			wantNoBuild(t, same, part, 8, api.ErrOrder)
			wantNoBuild(t, down, part, 8, api.ErrOrder)
		}
	}
	l := []api.Entry{{Key: "a", Gone: true}, {Key: "a", Value: "x"}}
	wantNoBuild(t, l, 1, 8, api.ErrOrder)
}

// TB1: 2^14 entries make a table, one more makes none, whatever the parts and bits are.
func TestBuildMostEntries(t *testing.T) {
	l := many(mostEntries + 1)
	for _, part := range []int{1, 7, mostPart} {
		wantNoBuild(t, l, part, 1, api.ErrLong)
		wantNoBuild(t, l, part, mostBits, api.ErrLong)
		wantBuild(t, l[:mostEntries], part, 1, formOf(l[:mostEntries], part, 1).bytes())
	}
	wantBuild(t, l[:mostEntries], mostPart, mostBits, formOf(l[:mostEntries], mostPart, mostBits).bytes())
	x := made(t, l[:mostEntries], 1, 4)
	wantAs(t, x, l[:mostEntries], 1, 4)
	for _, i := range []int{0, 1, 2, 5000, mostEntries - 2, mostEntries - 1} {
		wantFind(t, x, l[i].Key, i)
		wantGet(t, x, told(l[i : i+1])[0])
	}
	wantNoGet(t, x, l[mostEntries].Key, 0)
}

// TB1: bytes of just MaxBlob are a table's, more are none.
func TestBuildMostBytes(t *testing.T) {
	for _, keys := range [][]string{{"a"}, {"a", "b"}, {"a", "b", "c"}} {
		for part := 1; part <= 2; part++ {
			l := put(keys...)
			at := len(l) - 1
			l[at].Value = strings.Repeat("x", api.MaxBlob-1000)
			l[at].Value += strings.Repeat("y", api.MaxBlob-len(built(t, l, part, 9)))
			b := built(t, l, part, 9)
			if len(b) != api.MaxBlob {
				t.Fatalf("%d bytes, want %d", len(b), api.MaxBlob)
			}
			wantAs(t, opened(t, b), l, part, 9)
			l[at].Value += "z"
			wantNoBuild(t, l, part, 9, api.ErrLong)
			l[at].Gone = true // its value is no matter any more
			wantAs(t, made(t, l, part, 9), l, part, 9)
			l[at].Gone = false
			l[at].Value = strings.Repeat("x", 2*api.MaxBlob)
			wantNoBuild(t, l, part, 9, api.ErrLong)
		}
	}
	long := put(strings.Repeat("k", api.MaxBlob))
	wantNoBuild(t, long, 1, 1, api.ErrLong)
	third := put(strings.Repeat("k", api.MaxBlob/3-20)) // the key stands there thrice
	wantAs(t, made(t, third, 1, 1), third, 1, 1)
}

// TB1: an argument that is wrong is told ahead of the order, and the order ahead of what is too long.
func TestBuildErrorsInOrder(t *testing.T) {
	down, long := put("b", "a"), many(mostEntries+1)
	both := slices.Clone(long)
	both[mostEntries].Key = ""
	wide := []api.Entry{{Key: "b", Value: strings.Repeat("x", api.MaxBlob)}, {Key: "a"}}
	for _, c := range [][2]int{{0, 1}, {-1, 1}, {1001, 1}, {1, 0}, {1, -1}, {1, 65}, {0, 65}} {
		for _, l := range [][]api.Entry{nil, down, long, both, wide} {
			wantNoBuild(t, l, c[0], c[1], api.ErrArg)
		}
	}
	for _, c := range [][2]int{{1, 1}, {1000, 64}} {
		wantNoBuild(t, both, c[0], c[1], api.ErrOrder)
		wantNoBuild(t, wide, c[0], c[1], api.ErrOrder)
		wantNoBuild(t, long, c[0], c[1], api.ErrLong)
	}
}

// wantFilter checks a table's filter by its bytes.
func wantFilter(t *testing.T, x *table.Table, want []byte) {
	t.Helper()
	if got := x.Filter().Encode(); !bytes.Equal(got, want) {
		t.Fatalf("Filter: %d bytes, % x, want %d, % x", len(got), got[:min(len(got), 50)], len(want), want[:min(len(want), 50)])
	}
}

// TB1: the filter has bits times how many entries there are, asks 3, and every key is in it.
func TestFilter(t *testing.T) {
	for _, n := range []int{1, 2, 3, 100} {
		for bits := 1; bits <= mostBits; bits++ {
			l := many(n)
			f := made(t, l, 10, bits).Filter()
			set := map[int]bool{}
			for _, key := range keysOf(l) {
				places := f.Bits(key)
				if !slices.Equal(places, asked(n*bits, key)) {
					t.Fatalf("%d entries, %d bits: Bits(%q): %d", n, bits, key, places)
				}
				if !f.May(key) {
					t.Fatalf("%d entries, %d bits: %q is not there", n, bits, key)
				}
				for _, i := range places {
					set[i] = true
				}
			}
			if f.Full() != len(set) {
				t.Fatalf("%d entries, %d bits: %d are set, want %d", n, bits, f.Full(), len(set))
			}
		}
	}
}

// TB2: a key is found in the last part whose first key is not above it: the first, the last of a part, the first of the next one, the last of all, and keys between.
func TestFind(t *testing.T) {
	l := put("b", "d", "f", "h", "j")
	for _, c := range []struct {
		part int
		want string // of a to l and of those just behind each: which part, - for none
	}{
		{1, "--00001111222233334-----"},
		{2, "--00000000111111112-----"},
		{3, "--00000000000011111-----"},
		{4, "--00000000000000001-----"},
		{5, "--00000000000000000-----"},
		{1000, "--00000000000000000-----"},
	} {
		x := made(t, l, c.part, 1) // so few bits are all set: every key is in the filter
		for i, want := range c.want {
			key := "abcdefghijkl"[i/2:i/2+1] + strings.Repeat("\x00", i%2)
			if f := x.Filter(); f.Full() != 5 {
				t.Fatalf("%d bits are set", f.Full())
			}
			wantFind(t, x, key, strings.IndexRune("01234", want))
		}
		for _, e := range l {
			wantGet(t, x, e)
		}
		for _, key := range []string{"", "a", "b\x00", "c", "e", "g", "i", "i\xff", "j\x00", "k", "\xff"} {
			wantNoGet(t, x, key, 0)
		}
	}
}

// TB2: a key that the filter has not is in no part, though it is between the first and the last; one that it has by chance is looked for, and not there.
func TestFindByFilter(t *testing.T) {
	l := many(300)
	for _, bits := range []int{1, 2, 3, 8, mostBits} {
		for _, part := range []int{1, 7, 300} {
			x := made(t, l, part, bits)
			chance, none := 0, 0
			for i := range 299 {
				key := l[i].Key + "\x00"
				want := -1
				if may(l, bits, key) {
					want = i / part
					chance++
				} else {
					none++
				}
				wantFind(t, x, key, want)
				wantNoGet(t, x, key, 0)
			}
			if bits < 9 && chance == 0 || bits > 1 && none == 0 {
				t.Fatalf("%d bits: %d by chance, %d not", bits, chance, none)
			}
		}
	}
}

// TB2: below the first key and above the last one nothing is found, though the filter may have it.
func TestFindOutside(t *testing.T) {
	for _, part := range []int{1, 2, 3} {
		x := made(t, put("b", "c", "d"), part, 1)
		for _, key := range []string{"", "\x00", "a", "a\xff", "d\x00", "dd", "e", "\xff"} {
			if !x.Filter().May(key) {
				t.Fatalf("the filter has %q not", key)
			}
			wantFind(t, x, key, -1)
			wantNoGet(t, x, key, 0)
		}
		wantFind(t, x, "b", 0)
		wantFind(t, x, "d", 2/part)
	}
	empty := made(t, put("", "b"), 1, 1)
	wantFind(t, empty, "", 0)
	wantFind(t, empty, "\x00", 0)
	wantFind(t, empty, "a\xff", 0)
	wantFind(t, empty, "b", 1)
	wantFind(t, empty, "b\x00", -1)
	wantGet(t, empty, api.Entry{})
}

// TB2: what is told of any table is as the model says, of any keys.
func TestTableOfAny(t *testing.T) {
	rnd := rand.New(rand.NewSource(2))
	for range 300 {
		l, part, bits := anyEntries(rnd, 40), 1+rnd.Intn(45), 1+rnd.Intn([]int{2, 9, mostBits}[rnd.Intn(3)])
		x := made(t, l, part, bits)
		wantAs(t, x, l, part, bits)
		for range 25 {
			wantKey(t, x, l, part, bits, anyKey(rnd))
			keys := near(l)
			wantKey(t, x, l, part, bits, keys[rnd.Intn(len(keys))])
		}
	}
}

// TB2: an entry that is gone is there, and told as gone; an empty value is there too.
func TestGetGone(t *testing.T) {
	l := []api.Entry{{Key: "", Value: "", Gone: true}, {Key: "a", Value: ""}, {Key: "b", Value: "x"}, {Key: "c", Value: "y", Gone: true}}
	for part := 1; part <= 4; part++ {
		x := made(t, l, part, 10)
		wantGet(t, x, api.Entry{Gone: true})
		wantGet(t, x, api.Entry{Key: "a"})
		wantGet(t, x, api.Entry{Key: "b", Value: "x"})
		wantGet(t, x, api.Entry{Key: "c", Gone: true})
	}
}

// TB2: there are no parts but those there are.
func TestPartOutside(t *testing.T) {
	for _, n := range []int{1, 2, 5} {
		x := made(t, many(n), 1, 8)
		for _, i := range []int{-1, -2, math.MinInt32, math.MinInt, n, n + 1, 1 << 14, 1 << 32, math.MaxInt} {
			wantNoPart(t, x, i, api.ErrRange)
		}
		for i := range n {
			wantPart(t, x, i, told(many(n))[i])
		}
	}
}

// TB2: a nil table has nothing, and tells it so in each call.
func TestNil(t *testing.T) {
	var x *table.Table
	for range 2 {
		wantEnds(t, x, 0, 0, "", "")
		for _, i := range []int{math.MinInt, -1, 0, 1, math.MaxInt} {
			wantNoPart(t, x, i, api.ErrArg)
		}
		for _, key := range []string{"", "a", "\xff"} {
			wantFind(t, x, key, -1)
			wantNoGet(t, x, key, api.ErrArg)
		}
		l, err := x.Entries()
		if wantErr(t, "Entries", err, api.ErrArg); l != nil {
			t.Fatalf("Entries: %#v", l)
		}
		if f := x.Filter(); f != nil {
			t.Fatalf("Filter: % x", f.Encode())
		}
	}
}

// TB1: how many bits a key's entry has changes no entry.
func TestBitsChangeNothing(t *testing.T) {
	l := many(50)
	for bits := 1; bits <= mostBits; bits++ {
		t.Run(fmt.Sprint(bits), func(t *testing.T) { wantAs(t, made(t, l, 8, bits), l, 8, bits) })
	}
}
