package index_test

import (
	"bytes"
	"maps"
	"math"
	"math/rand"
	"slices"
	"strings"
	"testing"

	"drydock/api"
	"drydock/index"
)

// known are indexes with what is sealed of them, spelt out but for tables: A and B stand for theirs.
var known = []struct {
	m    *model
	want string
}{
	{modelOf(index.Config{Mem: 1, Fan: 2, Part: 3, Bits: 4}), "\x00\x01\x00\x02\x00\x03\x00\x04\x00\x00"},
	{modelOf(most), "\x00\x83\xe8\x00\x10\x00\x83\xe8\x00\x40\x00\x00"},
	{&model{c: some, ahead: map[string]api.Entry{"": value("", "xy"), "a": gone("a")}}, "\x00\x02\x00\x01\x00\x02\x00\x08\x02\x00\x00\x02xy\x01a\x01\x00\x00"},
	{&model{c: some, ahead: map[string]api.Entry{"b": value("b", "")}, levels: [][]*sheet{nil, {tableA, tableB}}}, "\x00\x02\x00\x01\x00\x02\x00\x08\x01\x01b\x00\x00\x02\x00\x02AB"},
	{&model{c: some, levels: [][]*sheet{{tableB}, nil, {tableA}}}, "\x00\x02\x00\x01\x00\x02\x00\x08\x00\x03\x01B\x00\x01A"},
	{&model{c: some, levels: [][]*sheet{{tableB}}}, "\x00\x02\x00\x01\x00\x02\x00\x08\x00\x01\x01B"},
}

// tableA and tableB are tables of known.
var tableA, tableB = sheetOf(1, 8, value("a", "x")), sheetOf(2, 8, gone("a"), value("b", ""))

// IX4: an index is encoded as the chapter says, and what comes of its bytes is as it was.
func TestEncode(t *testing.T) {
	for _, k := range known {
		p := pairOf(t, k.m)
		p.check("a", "b")
		wantBytes(t, decoded(t, encoded(t, p.x)), k.m.bytes())
	}
}

// IX4: bytes that are known.
func TestKnownBytes(t *testing.T) {
	for _, k := range known {
		want := sealed(spelt(k.want))
		wantBytes(t, decoded(t, want), want)
		wantBytes(t, decoded(t, k.m.bytes()), want)
	}
	wantBytes(t, fresh(t, known[0].m.c), []byte("\x00\x01\x00\x02\x00\x03\x00\x04\x00\x00\x38\xdd\x63\x66"))
	wantBytes(t, fresh(t, most), []byte("\x00\x83\xe8\x00\x10\x00\x83\xe8\x00\x40\x00\x00\xd2\x6b\x81\x22"))
	p := newPair(t, some)
	p.lay(value("a", "x"))
	wantBytes(t, p.x, sealed([]byte("\x00\x02\x00\x01\x00\x02\x00\x08\x01\x01a\x00\x01x\x00")))
}

// spelt has tables, with their lengths, where their letters stand.
func spelt(want string) []byte {
	tables := strings.NewReplacer("A", string(text(string(tableA.bytes))), "B", string(text(string(tableB.bytes))))
	return []byte(tables.Replace(want))
}

// IX4: what comes of bytes goes on as what was encoded: the same is done to both, and they stay alike. A job that runs is not told, and can be begun anew.
func TestGoesOn(t *testing.T) {
	rnd := rand.New(rand.NewSource(30))
	for range 100 {
		p := pairOf(t, anyModel(rnd))
		for range rnd.Intn(20) {
			p.lay(anyEntry(rnd))
		}
		p.compact()
		if p.m.job != nil {
			p.step(1 + rnd.Intn(3))
		}
		other := &pair{t: t, x: decoded(t, encoded(t, p.x)), m: &model{c: p.m.c, ahead: maps.Clone(p.m.ahead), levels: slices.Clone(p.m.levels)}}
		other.check()
		if p.m.job != nil {
			p.step(100)
			other.merge()
		}
		for range 30 {
			wantBytes(t, other.x, encoded(t, p.x))
			e, n, what := anyEntry(rnd), 1+rnd.Intn(5), rnd.Intn(4)
			for _, one := range []*pair{p, other} {
				switch {
				case what > 1:
					one.lay(e)
				case what == 1:
					one.flush()
				case one.m.job == nil:
					one.compact()
				default:
					one.step(n)
				}
			}
		}
		p.check()
		other.check()
	}
}

// form is what an index' bytes tell: its fields are changed where they are to be wrong.
type form struct {
	mem, fan, part, bits []byte
	entries              uint64
	ahead                []byte
	levels               uint64
	counts               []uint64
	tables               [][][]byte
	behind               []byte
}

// base is an index with three entries ahead, and three levels, of which one has no table.
func base() form {
	return form{
		mem: whole(3), fan: whole(2), part: whole(2), bits: whole(8),
		entries: 3, ahead: laid(value("b", "x"), gone("d"), value("f", "")),
		levels: 3, counts: []uint64{2, 0, 1}, tables: [][][]byte{{bytes.Clone(tableA.bytes), bytes.Clone(tableB.bytes)}, nil, {bytes.Clone(tableA.bytes)}},
	}
}

// bare are the bytes of a form ahead of their sum.
func (f form) bare() []byte {
	l := slices.Concat(f.mem, f.fan, f.part, f.bits, number(f.entries), f.ahead, number(f.levels))
	for i, tables := range f.tables {
		l = append(l, number(f.counts[i])...)
		for _, table := range tables {
			l = append(l, text(string(table))...)
		}
	}
	return append(l, f.behind...)
}

// bytes are the bytes of a form.
func (f form) bytes() []byte { return sealed(f.bare()) }

// changed is base with a change.
func changed(change func(f *form)) []byte {
	f := base()
	change(&f)
	return f.bytes()
}

// wantForm checks that base is of the form with a change, or is not.
func wantForm(t *testing.T, is bool, change func(f *form)) {
	t.Helper()
	if is {
		want := changed(change)
		wantBytes(t, decoded(t, want), want)
	} else {
		wantNoDecode(t, changed(change), api.ErrForm)
	}
}

// IX4: base as it is.
func TestDecode(t *testing.T) {
	wantForm(t, true, func(f *form) {})
	x := decoded(t, base().bytes())
	wantLevels(t, x, 2, 0, 1)
	wantHeld(t, x, 3)
	wantOnly(t, x, value("a", "x"), value("b", "x"), value("f", ""))
	wantNoJob(t, x, api.ErrNone)
	wantErr(t, "Put", x.Put("c", ""), 0)
	wantLevels(t, x, 3, 0, 1)
	wantStep(t, jobOf(t, x), 9, true)
	wantLevels(t, x, 0, 1, 1)
}

// IX4: bytes that are fewer than a sum has are told so, and bytes whose sum is another one.
func TestDecodeNotSealed(t *testing.T) {
	for _, l := range [][]byte{nil, {}, {0}, {1}, {0, 0}, {1, 0, 0}, {255, 255, 255}} {
		wantNoDecode(t, l, api.ErrEnd)
	}
	for _, l := range [][]byte{{0, 0, 0, 0}, {2, 0, 0, 0}, {255, 255, 255, 255}, {1, 0, 0, 0, 0}} {
		wantNoDecode(t, l, api.ErrSum)
	}
	want := base().bytes()
	for at := range want {
		for _, other := range []byte{1, 2, 128, 255} {
			l := bytes.Clone(want)
			l[at] ^= other
			wantNoDecode(t, l, api.ErrSum)
		}
		wantNoDecode(t, slices.Delete(bytes.Clone(want), at, at+1), api.ErrSum)
		wantNoDecode(t, slices.Insert(bytes.Clone(want), at, 7), api.ErrSum)
	}
	wantNoDecode(t, append(bytes.Clone(want), 0), api.ErrSum)
	wantNoDecode(t, slices.Concat(want, want), api.ErrSum)
}

// IX4: what is sealed and ends early, wherever, or goes on, by whatever, is not of the form; so is nothing.
func TestDecodeTakenOffWhole(t *testing.T) {
	forms := [][]byte{base().bare()}
	for _, k := range known {
		l := k.m.bytes()
		forms = append(forms, l[:len(l)-4])
	}
	for _, l := range forms {
		for n := range l {
			wantNoDecode(t, sealed(l[:n]), api.ErrForm)
		}
		for _, more := range []string{"\x00", "\x01", "\xff", "\x00\x00", string(l)} {
			wantNoDecode(t, sealed(append(bytes.Clone(l), more...)), api.ErrForm)
		}
	}
	for _, behind := range []string{"\x00", "\x01", "\x01\x00"} {
		wantForm(t, false, func(f *form) { f.behind = []byte(behind) })
	}
}

// IX4: what is sealed with a byte left out, put behind another one, or made another one, is no index, or one that has these bytes.
func TestDecodeOtherBytes(t *testing.T) {
	want, forms := base().bare(), 0
	for at := range want {
		others := [][]byte{slices.Delete(bytes.Clone(want), at, at+1)}
		for n := range 256 {
			l := bytes.Clone(want)
			l[at] = byte(n)
			others = append(others, l)
			if n < 4 || n > 250 {
				others = append(others, slices.Insert(bytes.Clone(want), at, byte(n)))
			}
		}
		for _, l := range others {
			x, err := index.Decode(sealed(l))
			if err != nil {
				wantNoDecode(t, sealed(l), api.ErrForm)
				continue
			}
			forms++
			wantBytes(t, x, sealed(l))
		}
	}
	if forms < 2*len(want) {
		t.Errorf("only %d are indexes", forms)
	}
}

// IX4: the numbers of a Config are as New takes them, and ints.
func TestDecodeConfig(t *testing.T) {
	fields := []struct {
		least, most int
		of          func(f *form) *[]byte
	}{
		{3, 1000, func(f *form) *[]byte { return &f.mem }},
		{1, 16, func(f *form) *[]byte { return &f.fan }},
		{1, 1000, func(f *form) *[]byte { return &f.part }},
		{1, 64, func(f *form) *[]byte { return &f.bits }},
	}
	for _, c := range fields {
		for _, n := range []int{c.least, c.least + 1, c.most - 1, c.most} {
			wantForm(t, true, func(f *form) { *c.of(f) = whole(n) })
		}
		for _, n := range []int{math.MinInt, -c.most, -2, -1, 0, c.most + 1, 1001, 1<<32 + 3, math.MaxInt} {
			wantForm(t, false, func(f *form) { *c.of(f) = whole(n) })
		}
		for _, wrong := range []string{"\x02\x03", "\xff\x03", "\x00\x80\x03", "\x00\xc0\x00\x03", "\x00\xff\x80\x00\x00\x00\x00\x00\x00\x03"} {
			wantForm(t, false, func(f *form) { *c.of(f) = []byte(wrong) })
		}
	}
}

// IX4: entries ahead are at most Mem, and as many as told.
func TestDecodeEntries(t *testing.T) {
	for _, n := range []uint64{0, 1, 2, 4, 5, 1000, 1 << 32, 1<<32 + 3, 1<<63 + 3, math.MaxUint64} {
		wantForm(t, false, func(f *form) { f.entries = n })
	}
	wantForm(t, true, func(f *form) { f.entries, f.ahead = 0, nil })
	wantForm(t, false, func(f *form) { f.mem = whole(2) })
	var l []api.Entry
	for i := range 1001 {
		l = append(l, value(numbered(i), ""))
	}
	for _, mem := range []int{1, 2, 999, 1000} {
		wantForm(t, true, func(f *form) { f.mem, f.entries, f.ahead = whole(mem), uint64(mem), laid(l[:mem]...) })
		wantForm(t, false, func(f *form) { f.mem, f.entries, f.ahead = whole(mem), uint64(mem)+1, laid(l[:mem+1]...) })
	}
}

// IX4: entries ahead are in order, each key once.
func TestDecodeOrder(t *testing.T) {
	keys := []string{"", "\x00", "a", "a\x00", "aa", "b", "\x7f", "\x80", "\xff", "\xff\xff"}
	for i, one := range keys {
		for j, two := range keys {
			wantForm(t, i < j, func(f *form) { f.entries, f.ahead = 2, laid(value(one, "x"), value(two, "x")) })
			wantForm(t, i < j, func(f *form) { f.entries, f.ahead = 2, laid(gone(one), value(two, "")) })
		}
	}
	for _, some := range [][]string{{"a", "c", "b"}, {"b", "a", "c"}, {"a", "b", "b"}, {"", "", "a"}, {"a", "b", ""}, {"c", "b", "a"}, {"a", "c", "a"}} {
		wantForm(t, false, func(f *form) { f.ahead = laid(value(some[0], ""), value(some[1], ""), value(some[2], "")) })
	}
}

// IX4: each entry ahead is as Put and Drop lay it in: of at most 512 bytes, and without a value if it is gone.
func TestDecodeEntry(t *testing.T) {
	long := strings.Repeat("z", 2000)
	one := func(is bool, e api.Entry) {
		t.Helper()
		wantForm(t, is, func(f *form) { f.entries, f.ahead = 1, laid(e) })
		wantForm(t, is, func(f *form) { f.entries, f.ahead = 2, laid(value("", "x"), e) })
		wantForm(t, is, func(f *form) { f.entries, f.ahead = 2, laid(e, value("{", "")) })
	}
	for _, n := range []int{1, 2, 255, 256, 257, 500, 510} {
		one(true, value(long[:n], long[:512-n]))
		one(false, value(long[:n], long[:513-n]))
		one(false, value(long[:n+1], long[:512-n]))
		one(false, value(long[:n], long[:1024]))
		one(false, value(long[:1024], long[:n]))
		one(true, gone(long[:n]))
		one(false, api.Entry{Key: long[:n], Value: "x", Gone: true})
	}
	for _, n := range []int{512, 513, 514, 600, 2000} {
		wantForm(t, n == 512, func(f *form) { f.entries, f.ahead = 1, laid(value(long[:n], "")) })
		wantForm(t, n == 512, func(f *form) { f.entries, f.ahead = 1, laid(gone(long[:n])) })
		wantForm(t, n == 512, func(f *form) { f.entries, f.ahead = 1, laid(value("", long[:n])) })
	}
	wantForm(t, false, func(f *form) { f.ahead[2] = 2 })
	wantForm(t, false, func(f *form) { f.ahead[2] = 255 })
	wantForm(t, false, func(f *form) {
		f.ahead = slices.Concat(laid(value("b", "x")), []byte("\x01d\x01\x01y"), laid(value("f", "")))
	})
}

// IX4: there are at most 32 levels, as many as told, the last one of which has a table.
func TestDecodeLevels(t *testing.T) {
	for _, n := range []uint64{0, 1, 2, 4, 33, 1 << 32, 1<<32 + 3, math.MaxUint64} {
		wantForm(t, false, func(f *form) { f.levels = n })
	}
	for _, n := range []int{0, 1, 2, 3, 31, 32, 33, 34, 100} {
		empty := func(f *form) { f.levels, f.counts, f.tables = uint64(n), make([]uint64, n), make([][][]byte, n) }
		wantForm(t, n == 0, empty)
		if n > 0 {
			wantForm(t, n <= 32, func(f *form) {
				empty(f)
				f.counts[n-1], f.tables[n-1] = 1, [][]byte{tableA.bytes}
			})
			wantForm(t, n == 1, func(f *form) {
				empty(f)
				f.counts[0], f.tables[0] = 1, [][]byte{tableA.bytes}
			})
		}
	}
}

// IX4: a level has at most 2^10 tables, as many as told.
func TestDecodeTables(t *testing.T) {
	for i := range 3 {
		for _, n := range []uint64{0, 1, 2, 3, 1025, 1 << 32, 1<<32 + 2, math.MaxUint64} {
			wantForm(t, n == base().counts[i], func(f *form) { f.counts[i] = n })
		}
		for _, n := range []int{1, 2, 1000, 1024, 1025, 1026, 2000} {
			wantForm(t, n <= 1024, func(f *form) { f.counts[i], f.tables[i] = uint64(n), slices.Repeat([][]byte{tableA.bytes}, n) })
		}
	}
}

// IX4: of each table neither Open nor Entries has an error.
func TestDecodeTable(t *testing.T) {
	for _, at := range [][2]int{{0, 0}, {0, 1}, {2, 0}} {
		table := func(is bool, b []byte) {
			t.Helper()
			wantForm(t, is, func(f *form) { f.tables[at[0]][at[1]] = b })
		}
		for _, s := range []*sheet{tableA, tableB} {
			table(true, s.bytes)
			bare := s.bytes[:len(s.bytes)-4]
			for n := range s.bytes {
				table(false, s.bytes[:n])
				other := bytes.Clone(s.bytes)
				other[n] ^= 1
				table(false, other)
			}
			for n := range bare {
				table(false, sealed(bare[:n]))
			}
			table(false, sealed(append(bytes.Clone(bare), 0)))
			table(false, append(bytes.Clone(s.bytes), 0))
		}
		for _, wrong := range []string{"", "\x00", "\x01\x00\x00\x00", "table"} {
			table(false, []byte(wrong))
			table(false, sealed([]byte(wrong)))
		}
		// a table that Open takes, of which a part has bytes of another sum, or is not of its form: the last one, too
		l := []api.Entry{value("a", "xyz"), value("b", "uvw"), value("c", "rst")}
		whole := tableOf(1, 8, l...)
		for _, in := range []string{"xyz", "uvw", "rst"} {
			table(false, sealed(bytes.Replace(whole[:len(whole)-4], []byte(in), []byte("!!!"), 1)))
		}
		for _, e := range l {
			part := sealed(append(number(1), laid(e)...))
			for _, other := range []api.Entry{value("z", e.Value), value("", e.Value), gone(e.Key)} {
				wrong := sealed(append(number(1), laid(other)...))
				table(other.Gone, sealed(bytes.Replace(whole[:len(whole)-4], text(string(part)), text(string(wrong)), 1)))
			}
		}
	}
}

// IX4: a table may have entries that Put lays not in, and parts and bits other than the Config's; one that is gone may come with a value, which nobody is told.
func TestDecodeOtherTables(t *testing.T) {
	long := strings.Repeat("z", 3000)
	odd := tableOf(1, 3, value("a", long), api.Entry{Key: "b", Value: "hidden", Gone: true}, value(long, ""))
	wantForm(t, true, func(f *form) { f.tables[2][0] = odd })
	for _, levels := range [][][]*sheet{{{{bytes: odd}}}, {{{bytes: odd}}, {tableB}}, {nil, {{bytes: odd}, tableB}}} {
		x := decoded(t, (&model{c: some, levels: levels}).bytes())
		wantOnly(t, x, value("a", long), value(long, ""))
		wantNo(t, x, "b")
		wantOnly(t, x.View(), value("a", long), value(long, ""))
	}
	// when it is merged, too
	x := decoded(t, (&model{c: some, levels: [][]*sheet{{{bytes: odd}, tableA}, nil, {tableB}}}).bytes())
	wantStep(t, jobOf(t, x), 9, true)
	wantBytes(t, x, (&model{c: some, levels: [][]*sheet{nil, {sheetOf(2, 8, value("a", long), gone("b"), value(long, ""))}, {tableB}}}).bytes())
}

// large has so many bytes, the last ones of an entry ahead of the tables.
func large(t *testing.T, size int) (*index.Index, api.Entry) {
	t.Helper()
	x := fresh(t, index.Config{Mem: 1000, Fan: 1, Part: 500, Bits: 2})
	key := 0
	lay := func(bytes int) (last api.Entry) {
		last = value(numbered(key), strings.Repeat("v", bytes-8)) // 8 for its key, its lengths, and whether it is gone
		wantErr(t, "Put", x.Put(last.Key, last.Value), 0)
		key++
		return last
	}
	short := func() int { return size - len(encoded(t, x)) }
	for short() > 500000 {
		for range 900 {
			lay(500)
		}
		wantErr(t, "Flush", x.Flush(), 0)
	}
	for left := short(); left > 1500; left -= 500 {
		lay(500)
	}
	for short() > 500 {
		lay(200)
	}
	last := lay(short())
	if n := short(); n != 0 {
		t.Fatalf("%d bytes short", n)
	}
	return x, last
}

// IX4: just 2^22 bytes are not too many, the sum with them; one more is, and more are: they are told again when they are fewer.
func TestEncodeMost(t *testing.T) {
	x, last := large(t, mostBytes)
	all, want := x.Range("", ""), encoded(t, x)
	for _, more := range []int{1, 2, 10} {
		wantErr(t, "Put", x.Put(last.Key, last.Value+strings.Repeat("v", more)), 0)
		got, err := x.Encode()
		if wantErr(t, "Encode", err, api.ErrLong); got != nil {
			t.Fatal("bytes beside an error")
		}
	}
	wantErr(t, "Put", x.Put(last.Key, last.Value), 0)
	wantBytes(t, x, want)
	wantList(t, "Range", decoded(t, want).Range("", ""), all)
	wantErr(t, "Flush", x.Flush(), 0)
	_, err := x.Encode()
	wantErr(t, "Encode", err, api.ErrLong)
	if v, ok := x.Get(last.Key); v != last.Value || !ok {
		t.Fatalf("Get: %q, %v", v, ok)
	}
}

// IX4: Decode has no such bound: of more bytes it is the index, whose Encode is ErrLong.
func TestDecodeMore(t *testing.T) {
	var l []api.Entry
	for i := range 1000 {
		l = append(l, value(numbered(i), strings.Repeat("v", 400)))
	}
	s := sheetOf(100, 1, l...)
	m := modelOf(some)
	m.levels = [][]*sheet{slices.Repeat([]*sheet{s}, 11)}
	if len(m.bytes()) <= mostBytes {
		t.Fatalf("only %d bytes", len(m.bytes()))
	}
	x := decoded(t, m.bytes())
	wantLevels(t, x, 11)
	wantHeld(t, x, 11)
	_, err := x.Encode()
	wantErr(t, "Encode", err, api.ErrLong)
	wantStep(t, jobOf(t, x), 1001, true)
	wantList(t, "Range", decoded(t, encoded(t, x)).Range("", ""), l)
}

// IX4: what Encode answers though Decode takes it not: more tables of a level, and more levels, than it takes.
func TestEncodeBeyondDecode(t *testing.T) {
	p := newPair(t, least)
	for i := range 1025 {
		p.layTable(value(numbered(i), ""))
		if i == 1023 {
			wantBytes(t, p.x, p.m.bytes())
			decoded(t, encoded(t, p.x))
		}
	}
	wantBytes(t, p.x, p.m.bytes())
	wantNoDecode(t, encoded(t, p.x), api.ErrForm)
	p.merge()
	p.check()
	wantBytes(t, decoded(t, encoded(t, p.x)), p.m.bytes())

	m := modelOf(some)
	m.levels = append(make([][]*sheet, 31), each("ab"))
	p = pairOf(t, m)
	p.merge()
	p.check()
	wantNoDecode(t, encoded(t, p.x), api.ErrForm)
}

// IX4: any index there and back.
func TestThereAndBack(t *testing.T) {
	rnd := rand.New(rand.NewSource(31))
	for range 300 {
		m := anyModel(rnd)
		want := m.bytes()
		p := &pair{t: t, x: decoded(t, want), m: m}
		wantBytes(t, p.x, want)
		p.check()
	}
}
