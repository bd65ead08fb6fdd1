package table_test

import (
	"bytes"
	"math/rand"
	"slices"
	"strings"
	"testing"

	"drydock/api"
)

// TB2: what was built is opened, and answers as the model does.
func TestOpen(t *testing.T) {
	for _, c := range known {
		x := opened(t, []byte(c.want))
		wantAs(t, x, c.l, c.part, c.bits)
		for _, key := range near(c.l) {
			wantKey(t, x, c.l, c.part, c.bits, key)
		}
	}
}

// TB2: bytes that are fewer than a sum has are told so.
func TestOpenTooShort(t *testing.T) {
	for _, b := range [][]byte{nil, {}, {0}, {1}, {0, 0}, {1, 0, 0}, {255, 255, 255}} {
		wantNoOpen(t, b, api.ErrEnd)
	}
	for _, b := range [][]byte{{0, 0, 0, 0}, {2, 0, 0, 0}, {255, 255, 255, 255}, {1, 0, 0, 0, 0}} {
		wantNoOpen(t, b, api.ErrSum)
	}
}

// TB2: bytes of which one is another one, one is missing, or one is more, are told by their sum.
func TestOpenOtherBytes(t *testing.T) {
	for _, c := range known {
		for at := range c.want {
			for n := range 256 {
				b := []byte(c.want)
				if b[at] == byte(n) {
					continue
				}
				b[at] = byte(n)
				wantNoOpen(t, b, api.ErrSum)
			}
			wantNoOpen(t, []byte(c.want[:at]+c.want[at+1:]), api.ErrSum)
			wantNoOpen(t, []byte(c.want[:at]+"\x07"+c.want[at:]), api.ErrSum)
		}
		wantNoOpen(t, []byte(c.want[:len(c.want)-1]), api.ErrSum)
		wantNoOpen(t, []byte(c.want+"\x00"), api.ErrSum)
		wantNoOpen(t, []byte(c.want+c.want), api.ErrSum)
	}
}

// cuts are what is sealed ahead of its end, wherever that is, and with more behind.
func cuts(b []byte) [][]byte {
	var l [][]byte
	for n := range b {
		l = append(l, b[:n:n])
	}
	for _, more := range []string{"\x00", "\x01", "\xff", "\x00\x00", string(b)} {
		l = append(l, slices.Concat(b, []byte(more)))
	}
	return l
}

// TB2: what is sealed and ends early, wherever, or goes on, by whatever, is not of the form; so is nothing.
func TestOpenTakenOffWhole(t *testing.T) {
	for _, c := range known {
		for _, b := range cuts(formOf(c.l, c.part, c.bits).bare()) {
			wantNoOpen(t, sealed(b), api.ErrForm)
		}
	}
}

// base is a table of five entries in parts of two, whose form may be changed.
func base() form { return formOf(baseEntries(), 2, 8) }

func baseEntries() []api.Entry {
	return []api.Entry{{Key: "b", Value: "x"}, {Key: "d", Gone: true}, {Key: "f"}, {Key: "h", Value: "yy"}, {Key: "j"}}
}

// changed is a form with a change.
func changed(f form, change func(f *form)) form {
	f.firsts, f.pieces = slices.Clone(f.firsts), slices.Clone(f.pieces)
	change(&f)
	return f
}

// TB2: entries above 2^14, or fewer than the parts, are not of the form, also those that are others in fewer bits.
func TestOpenEntries(t *testing.T) {
	wantAs(t, opened(t, base().bytes()), baseEntries(), 2, 8)
	for _, n := range []uint64{0, 1, 2, 1<<14 + 1, 1<<14 + 5, 1 << 15, 1 << 16, 1<<16 + 5, 1 << 32, 1<<32 + 5, 1 << 63, 1<<63 + 5, 1<<64 - 1} {
		wantNoOpen(t, changed(base(), func(f *form) { f.entries = n }).bytes(), api.ErrForm)
	}
	for _, n := range []uint64{3, 4, 5, 6, 1<<14 - 1, 1 << 14} {
		x := opened(t, changed(base(), func(f *form) { f.entries = n }).bytes())
		wantEnds(t, x, int(n), 3, "b", "j")
	}
}

// TB2: no parts, other parts than there are, and parts above 2^14, are not of the form.
func TestOpenParts(t *testing.T) {
	for _, n := range []uint64{0, 1, 2, 4, 5, 6, 1 << 14, 1<<14 + 1, 1<<16 + 3, 1<<32 + 3, 1<<63 + 3, 1<<64 - 1} {
		for _, entries := range []uint64{5, 1 << 14} {
			wantNoOpen(t, changed(base(), func(f *form) { f.parts, f.entries = n, entries }).bytes(), api.ErrForm)
		}
	}
	for _, entries := range []uint64{0, 1, 5} {
		for _, last := range []string{"", "a", "j"} {
			f := changed(base(), func(f *form) { f.entries, f.parts, f.firsts, f.pieces, f.last = entries, 0, nil, nil, last })
			wantNoOpen(t, f.bytes(), api.ErrForm)
		}
	}
	l := many(mostEntries + 1)
	opened(t, formOf(l[:mostEntries], 1, 1).bytes())
	for _, entries := range []uint64{mostEntries, mostEntries + 1, 1 << 20} {
		f := formOf(l, 1, 1)
		f.entries = entries
		wantNoOpen(t, f.bytes(), api.ErrForm)
	}
}

// TB2: first keys that are the same, or go down, are not of the form.
func TestOpenFirstKeys(t *testing.T) {
	for _, firsts := range [][]string{{"b", "b", "j"}, {"b", "j", "j"}, {"b", "f", "f"}, {"f", "f", "j"}, {"f", "b", "j"}, {"b", "j", "f"}, {"b", "", "j"}, {"b", "f", ""}, {"", "", ""}, {"b", "f", "b"}, {"\xff", "f", "j"}, {"f\x00", "f", "j"}} {
		wantNoOpen(t, changed(base(), func(f *form) { f.firsts = firsts }).bytes(), api.ErrForm)
	}
	for _, firsts := range [][]string{{"", "f", "j"}, {"b", "b\x00", "j"}, {"b", "f", "f\x00"}} {
		x := opened(t, changed(base(), func(f *form) { f.firsts = firsts }).bytes())
		wantEnds(t, x, 5, 3, firsts[0], "j")
	}
}

// TB2: a last key below the last first key is not of the form; one that is the same, or above it, is.
func TestOpenLastKey(t *testing.T) {
	for _, last := range []string{"", "a", "b", "f", "h", "i", "i\xff\xff"} {
		wantNoOpen(t, changed(base(), func(f *form) { f.last = last }).bytes(), api.ErrForm)
	}
	for _, last := range []string{"j", "j\x00", "k", "\xff"} {
		x := opened(t, changed(base(), func(f *form) { f.last = last }).bytes())
		wantEnds(t, x, 5, 3, "b", last)
		wantAll(t, x, baseEntries()...)
		wantGet(t, x, api.Entry{Key: "j"})
	}
}

// TB2: a filter that is not bloom's is not of the form.
func TestOpenFilter(t *testing.T) {
	right := base().filter
	wrong := [][]byte{nil, {0}, {8}, {8, 1}, {8, 1, 1}, {0, 1, 0}, {8, 0, 1, 0}, {8, 17, 1, 0}, {8, 3, 2, 0, 0}, {7, 3, 1, 128}, {0x80, 8, 3, 1, 0}, right[:len(right)-1], right[1:], slices.Concat(right, []byte{0})}
	for _, b := range wrong {
		wantNoOpen(t, changed(base(), func(f *form) { f.filter = b }).bytes(), api.ErrForm)
	}
	for _, b := range [][]byte{{8, 1, 1, 0}, {7, 16, 1, 127}, {1, 3, 1, 1}} {
		wantFilter(t, opened(t, changed(base(), func(f *form) { f.filter = b }).bytes()), b)
	}
}

// TB2: a key that a table's own filter has not is in no part, though a part has it.
func TestFindAsksTheFilter(t *testing.T) {
	x := opened(t, changed(base(), func(f *form) { f.filter = []byte{8, 3, 1, 0} }).bytes())
	for _, key := range []string{"b", "d", "e", "j"} {
		wantFind(t, x, key, -1)
		wantNoGet(t, x, key, 0)
	}
	wantAll(t, x, baseEntries()...)
}

// TB2: bytes behind the filter are not of the form, and numbers are in their one form.
func TestOpenNumbers(t *testing.T) {
	for _, more := range []string{"\x00", "\x01", "\xff", "\x00\x00\x00\x00", string(base().bytes())} {
		wantNoOpen(t, changed(base(), func(f *form) { f.behind = []byte(more) }).bytes(), api.ErrForm)
	}
	b := base().bare()
	opened(t, sealed(b))
	for _, at := range []int{0, 1, 2, 4} { // of entries, of parts, of the first key's text, of the first part's bytes
		wide := slices.Concat(b[:at], []byte{0x80}, b[at:])
		wantNoOpen(t, sealed(wide), api.ErrForm)
		for _, n := range []string{"\xff", "\xff\xff\xff\xff\xff\xff\xff\xff\xff", "\xff\x80\x00\x00\x00\x00\x00\x00\x00", "\xf0\xff\xff\xff\xff"} {
			great := slices.Concat(b[:at], []byte(n), b[at+1:])
			wantNoOpen(t, sealed(great), api.ErrForm)
		}
	}
}

// withPart is the base with other bytes of one part.
func withPart(i int, b []byte) form {
	return changed(base(), func(f *form) { f.pieces[i] = b })
}

// wantBad checks a table of which the bytes of one part are wrong: this is told when that part is asked for, and by nothing else.
func wantBad(t *testing.T, i int, b []byte, want api.Errno) {
	t.Helper()
	l := baseEntries()
	x := opened(t, withPart(i, b).bytes())
	wantEnds(t, x, 5, 3, "b", "j")
	wantFilter(t, x, base().filter)
	for at, some := range cut(l, 2) {
		if at == i {
			wantNoPart(t, x, at, want)
		} else {
			wantPart(t, x, at, some...)
		}
		for _, e := range some {
			if wantFind(t, x, e.Key, at); at == i {
				wantNoGet(t, x, e.Key, want)
			} else {
				wantGet(t, x, e)
			}
		}
	}
	got, err := x.Entries()
	if wantErr(t, "Entries", err, want); got != nil {
		t.Fatalf("Entries: %#v beside an error", got)
	}
	for _, key := range []string{"", "a", "j\x00", "k"} {
		wantNoGet(t, x, key, 0)
	}
}

// TB2: a part's bytes that are too short for a sum, or have a wrong one, are told when the part is asked for.
func TestPartSum(t *testing.T) {
	for i := range 3 {
		for _, b := range [][]byte{nil, {0}, {1, 0}, {1, 0, 0}} {
			wantBad(t, i, b, api.ErrEnd)
		}
		right := base().pieces[i]
		wantBad(t, i, right[:len(right)-1], api.ErrSum)
		wantBad(t, i, right[1:], api.ErrSum)
		wantBad(t, i, slices.Concat(right, []byte{0}), api.ErrSum)
		wantBad(t, i, []byte{0, 0, 0, 0}, api.ErrSum)
		for at := range right {
			b := slices.Clone(right)
			b[at]++
			wantBad(t, i, b, api.ErrSum)
		}
	}
}

// TB2: a part's bytes that end early, or go on, behind a right sum, are not of their form.
func TestPartTakenOffWhole(t *testing.T) {
	for i, some := range cut(baseEntries(), 2) {
		for _, b := range cuts(bare(some...)) {
			wantBad(t, i, sealed(b), api.ErrForm)
		}
	}
}

// TB2: a part without an entry, of more or fewer than it tells, and with numbers and truths in other forms, is not of its form.
func TestPartForm(t *testing.T) {
	for i, some := range cut(baseEntries(), 2) {
		wantBad(t, i, partOf(), api.ErrForm)
		right := bare(some...)
		for _, n := range []string{"\x00", "\x03", "\x04", "\x7f", "\x80\x01", "\x80\x02", "\xff\xff\xff\xff\xff\xff\xff\xff\xff", "\xff\x80\x00\x00\x00\x00\x00\x00\x00", "\xff\x7f\xff\xff\xff\xff\xff\xff\xff"} {
			wantBad(t, i, sealed(slices.Concat([]byte(n), right[1:])), api.ErrForm)
			wantBad(t, i, sealed(slices.Concat(right[:1], []byte(n), right[2:])), api.ErrForm) // of the first key's text
		}
		for _, n := range []byte{2, 3, 127, 255} {
			b := slices.Clone(right)
			b[3] = n // whether the first one is gone
			wantBad(t, i, sealed(b), api.ErrForm)
		}
	}
}

// TB2: a part with another first key, whichever, is wrong.
func TestPartFirstKey(t *testing.T) {
	for _, key := range []string{"", "a", "b\x00", "c", "B"} {
		wantBad(t, 0, partOf(put(key, "d")...), api.ErrForm)
		wantBad(t, 0, partOf(put(key)...), api.ErrForm)
	}
	for _, key := range []string{"", "b", "d", "e", "f\x00", "g"} {
		wantBad(t, 1, partOf(put(key, "h")...), api.ErrForm)
		wantBad(t, 2, partOf(put(key, "j")...), api.ErrForm)
	}
	wantBad(t, 1, base().pieces[0], api.ErrForm)
	wantBad(t, 0, base().pieces[2], api.ErrForm)
	wantBad(t, 0, partOf(put("a", "b", "d")...), api.ErrForm)
	wantBad(t, 0, partOf(put("d")...), api.ErrForm)
}

// TB2: a part with keys that are the same, or go down, wherever, is wrong.
func TestPartKeysOrder(t *testing.T) {
	for _, keys := range [][]string{{"b", "b"}, {"b", ""}, {"b", "a"}, {"b", "d", "d"}, {"b", "d", "c"}, {"b", "c", "b"}, {"b", "e", "c", "d"}, {"b", "c", "e", "d"}} {
		wantBad(t, 0, partOf(put(keys...)...), api.ErrForm)
	}
	wantBad(t, 0, partOf(api.Entry{Key: "b", Value: "x"}, api.Entry{Key: "b", Gone: true}), api.ErrForm)
	wantBad(t, 2, partOf(put("j", "j")...), api.ErrForm)
	wantBad(t, 2, partOf(put("j", "i")...), api.ErrForm)
}

// TB2: a part with a key above Last, or, ahead of another part, with one that is not below that one's first, is wrong.
func TestPartLastKey(t *testing.T) {
	for _, key := range []string{"j\x00", "k", "\xff"} {
		wantBad(t, 2, partOf(put("j", key)...), api.ErrForm)
		wantBad(t, 1, partOf(put("f", key)...), api.ErrForm)
		wantBad(t, 0, partOf(put("b", "d", key)...), api.ErrForm)
	}
	for _, key := range []string{"f", "f\x00", "g", "j"} {
		wantBad(t, 0, partOf(put("b", key)...), api.ErrForm)
		wantBad(t, 0, partOf(put("b", "d", key)...), api.ErrForm)
	}
	for _, key := range []string{"j", "j\x00"} {
		wantBad(t, 1, partOf(put("f", "h", key)...), api.ErrForm)
	}
	wantBad(t, 0, partOf(put("b", "j", "c")...), api.ErrForm) // the middle one is above
	one := formOf(put("b"), 1, 8)
	one.pieces[0] = partOf(put("b", "c")...)
	wantNoPart(t, opened(t, one.bytes()), 0, api.ErrForm)
}

// TB2: keys just below the next part's first, and up to Last, are right.
func TestPartUpToItsBounds(t *testing.T) {
	l := put("b", "e\xff\xff")
	x := opened(t, withPart(0, partOf(l...)).bytes())
	wantPart(t, x, 0, l...)
	f := changed(base(), func(f *form) { f.last, f.pieces[2] = "m", partOf(put("j", "k", "m")...) })
	wantPart(t, opened(t, f.bytes()), 2, put("j", "k", "m")...)
}

// TB2: of several parts that are wrong Entries tells the first one's error, and each part its own.
func TestFirstError(t *testing.T) {
	wrong := map[api.Errno][]byte{api.ErrEnd: {1}, api.ErrSum: {1, 2, 3, 4}, api.ErrForm: partOf()}
	for first, one := range wrong {
		for second, two := range wrong {
			for _, at := range [][2]int{{0, 1}, {0, 2}, {1, 2}} {
				f := changed(base(), func(f *form) { f.pieces[at[0]], f.pieces[at[1]] = one, two })
				x := opened(t, f.bytes())
				wantNoPart(t, x, at[0], first)
				wantNoPart(t, x, at[1], second)
				_, err := x.Entries()
				wantErr(t, "Entries", err, first)
			}
		}
	}
}

// TB2: keys that the filter has not, or that are outside, are not there, though each part is wrong.
func TestNothingIsReadForNothing(t *testing.T) {
	f := changed(base(), func(f *form) { f.pieces = [][]byte{nil, nil, nil} })
	x := opened(t, f.bytes())
	for _, key := range append(near(baseEntries()), strings.Repeat("e", 100)) {
		at := place(baseEntries(), 2, 8, key)
		wantFind(t, x, key, at)
		want := api.ErrEnd
		if at < 0 {
			want = 0
		}
		wantNoGet(t, x, key, want)
	}
}

// TB2: what is opened of any bytes with a right sum is a table whose bytes are of the form, or it is told that they are not.
func TestOpenOfAny(t *testing.T) {
	rnd := rand.New(rand.NewSource(3))
	there := 0
	for range 20000 {
		l := anyEntries(rnd, 6)
		b := formOf(l, 1+rnd.Intn(4), 1+rnd.Intn(4)).bare()
		for range 1 + rnd.Intn(2) {
			b[rnd.Intn(len(b))] = byte(rnd.Intn([]int{4, 256}[rnd.Intn(2)]))
		}
		f, ok := read(b)
		if !ok {
			wantNoOpen(t, sealed(b), api.ErrForm)
			continue
		}
		if !bytes.Equal(f.bare(), b) {
			t.Fatalf("% x is read as % x", b, f.bare())
		}
		there++
		wantEnds(t, opened(t, sealed(b)), int(f.entries), int(f.parts), f.firsts[0], f.last)
	}
	if there < 500 {
		t.Errorf("only %d are tables", there)
	}
}

// read is the form of bytes, and whether they are of it, told without the program.
func read(b []byte) (form, bool) {
	var f form
	f.entries, b = readNumber(b)
	f.parts, b = readNumber(b)
	if f.entries > mostEntries || f.parts < 1 || f.parts > f.entries {
		return f, false
	}
	for range f.parts {
		var first, piece string
		first, b = readText(b)
		piece, b = readText(b)
		f.firsts, f.pieces = append(f.firsts, first), append(f.pieces, []byte(piece))
	}
	f.last, b = readText(b)
	filter, b := readText(b)
	f.filter = []byte(filter)
	ordered := slices.IsSorted(f.firsts) && len(slices.Compact(slices.Clone(f.firsts))) == len(f.firsts)
	return f, b != nil && len(b) == 0 && ordered && f.last >= f.firsts[len(f.firsts)-1] && isFilter(f.filter)
}

// readNumber takes a number off; of wrong bytes nil is left.
func readNumber(b []byte) (uint64, []byte) {
	for more := range 9 {
		if len(b) < 1+more {
			break
		}
		n := uint64(0)
		for _, c := range b[:1+more] {
			n = n<<8 | uint64(c)
		}
		if more < 8 {
			n &= 1<<(7*more+7) - 1
		}
		if bytes.Equal(number(n), b[:1+more]) {
			return n, append([]byte{}, b[1+more:]...)
		}
	}
	return 0, nil
}

// readText takes a text off; of wrong bytes nil is left.
func readText(b []byte) (string, []byte) {
	n, b := readNumber(b)
	if b == nil || n > uint64(len(b)) {
		return "", nil
	}
	return string(b[:n]), b[n:]
}

// isFilter tells whether bytes are a filter's.
func isFilter(b []byte) bool {
	size, b := readNumber(b)
	asks, b := readNumber(b)
	set, b := readText(b)
	if b == nil || len(b) > 0 || size < 1 || size > 1<<20 || asks < 1 || asks > 16 || uint64(len(set)) != (size+7)/8 {
		return false
	}
	return size%8 == 0 || set[len(set)-1] < 1<<(size%8)
}
