package index_test

import (
	"bytes"
	"encoding/binary"
	"errors"
	"maps"
	"math/bits"
	"math/rand"
	"slices"
	"testing"

	"drydock/api"
	"drydock/index"
)

const (
	mostTable = 1 << 14 // entries
	mostBytes = 1 << 22
	modulus   = 1<<31 - 1
)

// sumOf is the remainder of the number whose digits are 1 and these bytes.
func sumOf(b []byte) uint64 {
	n := uint64(1)
	for _, c := range b {
		n = (n*257 + uint64(c)) % modulus
	}
	return n
}

// sealed is bytes and their sum.
func sealed(b []byte) []byte {
	return binary.LittleEndian.AppendUint32(slices.Clone(b), uint32(sumOf(b)))
}

// number is a number as bytes, the first of which tells how many more there are.
func number(n uint64) []byte {
	more := max(bits.Len64(n)-1, 0) / 7
	if more >= 8 {
		return binary.BigEndian.AppendUint64([]byte{255}, n)
	}
	b := binary.BigEndian.AppendUint64(nil, n)[7-more:]
	b[0] |= byte(255) << (8 - more)
	return b
}

// whole is a number that may be below 0 as bytes.
func whole(n int) []byte {
	if n < 0 {
		return append([]byte{1}, number(uint64(-1-n))...)
	}
	return append([]byte{0}, number(uint64(n))...)
}

// text is a text as bytes.
func text(s string) []byte { return append(number(uint64(len(s))), s...) }

// laid are entries as bytes, one that is gone with the value that it comes with.
func laid(l ...api.Entry) []byte {
	var b []byte
	for _, e := range l {
		b = append(b, text(e.Key)...)
		if e.Gone {
			b = append(b, 1)
		} else {
			b = append(b, 0)
		}
		b = append(b, text(e.Value)...)
	}
	return b
}

// filterOf are the bytes of the filter of entries.
func filterOf(l []api.Entry, each int) []byte {
	size := uint64(each * len(l))
	set := make([]byte, (size+7)/8)
	for _, e := range l {
		a, b := sumOf([]byte(e.Key)), sumOf([]byte("\x01"+e.Key))
		for i := range uint64(3) {
			n := (a + i*b) % size
			set[n/8] |= 1 << (n % 8)
		}
	}
	return slices.Concat(number(size), number(3), text(string(set)))
}

// tableOf are the bytes of a table.
func tableOf(part, each int, l ...api.Entry) []byte {
	parts := slices.Collect(slices.Chunk(l, part))
	b := append(number(uint64(len(l))), number(uint64(len(parts)))...)
	for _, some := range parts {
		piece := sealed(append(number(uint64(len(some))), laid(some...)...))
		b = slices.Concat(b, text(some[0].Key), text(string(piece)))
	}
	return sealed(slices.Concat(b, text(l[len(l)-1].Key), text(string(filterOf(l, each)))))
}

// sheet is a model's table.
type sheet struct {
	entries []api.Entry
	bytes   []byte
}

// sheetOf is the table of entries.
func sheetOf(part, each int, l ...api.Entry) *sheet { return &sheet{l, tableOf(part, each, l...)} }

// model is an index, told without the program.
type model struct {
	c      index.Config
	ahead  map[string]api.Entry
	levels [][]*sheet // the newest first; some at the end may be empty
	views  []*seen
	job    *work
}

// seen is what a view has.
type seen struct {
	has    map[string]api.Entry
	sheets []*sheet
}

// work is a job: what it is to make, and how much of it is taken.
type work struct {
	level  int
	inputs []*sheet
	made   []api.Entry
	taken  int
}

// modelOf has no entries.
func modelOf(c index.Config) *model { return &model{c: c, ahead: map[string]api.Entry{}} }

// put is Put, and Drop of an entry that is gone.
func (m *model) put(e api.Entry) api.Errno {
	if len(e.Key)+len(e.Value) > 512 {
		return api.ErrLong
	}
	if _, there := m.ahead[e.Key]; !there && len(m.ahead) == m.c.Mem {
		m.flush()
	}
	m.ahead[e.Key] = e
	return 0
}

// flush is Flush.
func (m *model) flush() {
	if len(m.ahead) == 0 {
		return
	}
	if len(m.levels) == 0 {
		m.levels = append(m.levels, nil)
	}
	m.levels[0] = append([]*sheet{sheetOf(m.c.Part, m.c.Bits, sorted(m.ahead)...)}, m.levels[0]...)
	m.ahead = map[string]api.Entry{}
}

// sorted are entries in order.
func sorted(all map[string]api.Entry) []api.Entry {
	var l []api.Entry
	for _, key := range slices.Sorted(maps.Keys(all)) {
		l = append(l, all[key])
	}
	return l
}

// overlaid are the entries of tables, the newest first, each laid over the older ones.
func overlaid(sheets []*sheet) map[string]api.Entry {
	all := map[string]api.Entry{}
	for _, s := range slices.Backward(sheets) {
		for _, e := range s.entries {
			all[e.Key] = e
		}
	}
	return all
}

// sheets are the tables of all levels, the newest first.
func (m *model) sheets() []*sheet { return slices.Concat(m.levels...) }

// has is what the index has.
func (m *model) has() map[string]api.Entry {
	all := overlaid(m.sheets())
	maps.Copy(all, m.ahead)
	maps.DeleteFunc(all, func(_ string, e api.Entry) bool { return e.Gone })
	return all
}

// between are the entries of these from a key on, up to another one.
func between(has map[string]api.Entry, from, to string) []api.Entry {
	return slices.DeleteFunc(sorted(has), func(e api.Entry) bool { return e.Key < from || to != "" && e.Key >= to })
}

// counts is Levels.
func (m *model) counts() []int {
	var l []int
	for i, level := range m.levels {
		if len(slices.Concat(m.levels[i:]...)) > 0 {
			l = append(l, len(level))
		}
	}
	return l
}

// held is Held.
func (m *model) held() int {
	all := map[*sheet]int{}
	for _, s := range m.sheets() {
		all[s]++
	}
	for _, v := range m.views {
		for _, s := range v.sheets {
			all[s]++
		}
	}
	return len(all)
}

// compact is Compact.
func (m *model) compact() api.Errno {
	if m.job != nil {
		return api.ErrLock
	}
	for i, level := range m.levels {
		if len(level) <= m.c.Fan {
			continue
		}
		if i+1 == len(m.levels) {
			m.levels = append(m.levels, nil)
		}
		m.job = &work{level: i, inputs: slices.Concat(level, m.levels[i+1])}
		made := overlaid(m.job.inputs)
		if len(slices.Concat(m.levels[i+2:]...)) == 0 {
			maps.DeleteFunc(made, func(_ string, e api.Entry) bool { return e.Gone })
		}
		m.job.made = sorted(made)
		return 0
	}
	return api.ErrNone
}

// step is Step of a job that runs.
func (m *model) step(n int) (bool, api.Errno) {
	j := m.job
	if n < 1 {
		return false, api.ErrArg
	}
	if n <= len(j.made)-j.taken {
		j.taken += n
		return false, 0
	}
	m.job = nil
	var next []*sheet
	if len(j.made) > mostTable {
		return false, api.ErrLong
	}
	if len(j.made) > 0 {
		next = append(next, sheetOf(m.c.Part, m.c.Bits, j.made...))
		if len(next[0].bytes) > api.MaxBlob {
			return false, api.ErrLong
		}
	}
	m.levels[j.level] = slices.DeleteFunc(slices.Clone(m.levels[j.level]), func(s *sheet) bool { return slices.Contains(j.inputs, s) })
	m.levels[j.level+1] = next
	return true, 0
}

// bytes are the index as bytes, however many.
func (m *model) bytes() []byte {
	b := slices.Concat(whole(m.c.Mem), whole(m.c.Fan), whole(m.c.Part), whole(m.c.Bits))
	b = slices.Concat(b, number(uint64(len(m.ahead))), laid(sorted(m.ahead)...))
	n := len(m.counts())
	b = append(b, number(uint64(n))...)
	for _, level := range m.levels[:n] {
		b = append(b, number(uint64(len(level)))...)
		for _, s := range level {
			b = append(b, text(string(s.bytes))...)
		}
	}
	return sealed(b)
}

// pair is an index and its model, to which the same is done.
type pair struct {
	t     *testing.T
	x     *index.Index
	m     *model
	j     *index.Job
	views []*index.View
}

// newPair has no entries.
func newPair(t *testing.T, c index.Config) *pair {
	t.Helper()
	return &pair{t: t, x: fresh(t, c), m: modelOf(c)}
}

// pairOf is an index that comes of a model's bytes: so there may be tables in any level.
func pairOf(t *testing.T, m *model) *pair {
	t.Helper()
	return &pair{t: t, x: decoded(t, m.bytes()), m: m}
}

// lay puts entries, or drops those that are gone.
func (p *pair) lay(l ...api.Entry) {
	p.t.Helper()
	for _, e := range l {
		if e.Gone {
			wantErr(p.t, "Drop", p.x.Drop(e.Key), p.m.put(e))
		} else {
			wantErr(p.t, "Put", p.x.Put(e.Key, e.Value), p.m.put(e))
		}
	}
}

// flush flushes.
func (p *pair) flush() {
	p.t.Helper()
	wantErr(p.t, "Flush", p.x.Flush(), 0)
	p.m.flush()
}

// layTable lays entries as a table of their own.
func (p *pair) layTable(l ...api.Entry) {
	p.t.Helper()
	p.flush()
	p.lay(l...)
	p.flush()
}

// compact begins a job, if there can be one.
func (p *pair) compact() {
	p.t.Helper()
	want := p.m.compact()
	j, err := p.x.Compact()
	wantErr(p.t, "Compact", err, want)
	if (j == nil) != (want != 0) {
		p.t.Fatalf("Compact: %v, beside error %d", j, want)
	}
	if j != nil {
		p.j = j
	}
}

// step goes a step of the job that runs.
func (p *pair) step(n int) bool {
	p.t.Helper()
	want, wrong := p.m.step(n)
	got, err := p.j.Step(n)
	if wantErr(p.t, "Step", err, wrong); got != want {
		p.t.Fatalf("Step(%d): %v, want %v", n, got, want)
	}
	return got
}

// merge does a whole job.
func (p *pair) merge() {
	p.t.Helper()
	p.compact()
	p.step(1 << 40)
}

// follow does a whole job that was done to the index to the model.
func (p *pair) follow() {
	p.m.compact()
	p.m.step(1 << 40)
}

// view takes a view.
func (p *pair) view() {
	p.t.Helper()
	p.views = append(p.views, p.x.View())
	p.m.views = append(p.m.views, &seen{p.m.has(), p.m.sheets()})
}

// release releases a view.
func (p *pair) release(i int) {
	p.views[i].Release()
	*p.m.views[i] = seen{}
}

// check checks that the index is as the model, and each view.
func (p *pair) check(keys ...string) {
	p.t.Helper()
	if got, want := p.x.Levels(), p.m.counts(); !slices.Equal(got, want) {
		p.t.Fatalf("Levels: %v, want %v", got, want)
	}
	wantHeld(p.t, p.x, p.m.held())
	wantHas(p.t, p.x, p.m.has(), keys...)
	for i, v := range p.views {
		wantHas(p.t, v, p.m.views[i].has, keys...)
	}
	if want := p.m.bytes(); len(want) <= mostBytes {
		wantBytes(p.t, p.x, want)
	}
}

// asked is what tells what it has: an Index or a View.
type asked interface {
	Get(key string) (string, bool)
	Range(from, to string) []api.Entry
}

// wantHas checks that these entries are there, and that nothing else is.
func wantHas(t *testing.T, x asked, has map[string]api.Entry, keys ...string) {
	t.Helper()
	wantList(t, "Range of all", x.Range("", ""), sorted(has))
	for key := range has {
		keys = append(keys, key, key+"\x00")
	}
	for _, key := range append(keys, "", "nowhere") {
		e, there := has[key]
		if v, ok := x.Get(key); v != e.Value || ok != there {
			t.Fatalf("Get(%q): %q, %v, want %q, %v", key, v, ok, e.Value, there)
		}
	}
	for i := 0; i < len(keys); i += len(keys)/6 + 1 {
		from, to := keys[i], keys[(i*7+1)%len(keys)]
		wantList(t, "Range", x.Range(from, to), between(has, from, to))
	}
}

// wantOnly checks that just these entries are there, by Get and by Range.
func wantOnly(t *testing.T, x asked, want ...api.Entry) {
	t.Helper()
	has := map[string]api.Entry{}
	for _, e := range want {
		has[e.Key] = e
	}
	wantHas(t, x, has)
}

// wantNo checks that keys are not there.
func wantNo(t *testing.T, x asked, keys ...string) {
	t.Helper()
	for _, key := range keys {
		if v, ok := x.Get(key); v != "" || ok {
			t.Fatalf("Get(%q): %q, %v", key, v, ok)
		}
	}
}

// wantLevels checks how many tables the levels have.
func wantLevels(t *testing.T, x *index.Index, want ...int) {
	t.Helper()
	if got := x.Levels(); !slices.Equal(got, want) {
		t.Fatalf("Levels: %v, want %v", got, want)
	}
}

// wantHeld checks how many tables there are.
func wantHeld(t *testing.T, x *index.Index, want int) {
	t.Helper()
	if got := x.Held(); got != want {
		t.Fatalf("Held: %d, want %d", got, want)
	}
}

// wantBytes checks an index' bytes.
func wantBytes(t *testing.T, x *index.Index, want []byte) {
	t.Helper()
	if got := encoded(t, x); !bytes.Equal(got, want) {
		t.Fatalf("Encode: %d, % x, want %d, % x", len(got), got[:min(len(got), 200)], len(want), want[:min(len(want), 200)])
	}
}

// wantErr checks which number an error has; 0 is none.
func wantErr(t *testing.T, what string, err error, want api.Errno) {
	t.Helper()
	var got api.Errno
	if err != nil && !errors.As(err, &got) {
		t.Fatalf("%s: an error without a number: %v", what, err)
	}
	if got != want {
		t.Fatalf("%s: error %d, want %d", what, got, want)
	}
}

// wantList checks entries.
func wantList(t *testing.T, what string, got, want []api.Entry) {
	t.Helper()
	if !slices.Equal(got, want) {
		t.Fatalf("%s: %d, %#v, want %d, %#v", what, len(got), got[:min(len(got), 9)], len(want), want[:min(len(want), 9)])
	}
}

// wantStep checks what a step answers.
func wantStep(t *testing.T, j *index.Job, n int, want bool) {
	t.Helper()
	if done, err := j.Step(n); done != want || err != nil {
		t.Fatalf("Step(%d): %v, %v, want %v", n, done, err, want)
	}
}

// wantNoStep checks that a step answers an error.
func wantNoStep(t *testing.T, j *index.Job, n int, want api.Errno) {
	t.Helper()
	done, err := j.Step(n)
	if wantErr(t, "Step", err, want); done {
		t.Fatalf("Step(%d): done beside an error", n)
	}
}

// wantNoJob checks that there is no job to be had.
func wantNoJob(t *testing.T, x *index.Index, want api.Errno) {
	t.Helper()
	j, err := x.Compact()
	if wantErr(t, "Compact", err, want); j != nil {
		t.Fatalf("Compact: a job beside an error")
	}
}

// wantNoDecode checks that bytes are no index'.
func wantNoDecode(t *testing.T, b []byte, want api.Errno) {
	t.Helper()
	x, err := index.Decode(b)
	if wantErr(t, "Decode", err, want); x != nil {
		t.Fatalf("Decode of %d bytes, % x: an index beside an error", len(b), b[:min(len(b), 50)])
	}
}

// fresh is an index without entries.
func fresh(t *testing.T, c index.Config) *index.Index {
	t.Helper()
	x, err := index.New(c)
	if x == nil || err != nil {
		t.Fatalf("New(%v): %v, %v", c, x, err)
	}
	return x
}

// encoded are the bytes of an index.
func encoded(t *testing.T, x *index.Index) []byte {
	t.Helper()
	b, err := x.Encode()
	if err != nil {
		t.Fatalf("Encode: %v", err)
	}
	return b
}

// decoded is the index of bytes.
func decoded(t *testing.T, b []byte) *index.Index {
	t.Helper()
	x, err := index.Decode(b)
	if x == nil || err != nil {
		t.Fatalf("Decode of %d bytes, % x: %v, %v", len(b), b[:min(len(b), 200)], x, err)
	}
	return x
}

// jobOf is the job of an index that has one to do.
func jobOf(t *testing.T, x *index.Index) *index.Job {
	t.Helper()
	j, err := x.Compact()
	if j == nil || err != nil {
		t.Fatalf("Compact: %v, %v", j, err)
	}
	return j
}

// value is an entry with a value.
func value(key, value string) api.Entry { return api.Entry{Key: key, Value: value} }

// gone is an entry that is gone.
func gone(key string) api.Entry { return api.Entry{Key: key, Gone: true} }

// numbered is a key of a number; keys have the order of numbers.
func numbered(n int) string { return string(binary.BigEndian.AppendUint32(nil, uint32(n))) }

// anyKey is picked by rnd: of few bytes, so that many are alike; some are long.
func anyKey(rnd *rand.Rand) string {
	b := make([]byte, rnd.Intn(3))
	if rnd.Intn(20) == 0 {
		b = make([]byte, rnd.Intn(250))
	}
	for i := range b {
		b[i] = "\x00\x01ab\x7f\x80\xff"[rnd.Intn(7)]
	}
	return string(b)
}

// anyEntry is picked by rnd.
func anyEntry(rnd *rand.Rand) api.Entry {
	if rnd.Intn(3) == 0 {
		return gone(anyKey(rnd))
	}
	return value(anyKey(rnd), anyKey(rnd))
}

// anyEntries are at most so many, but one at least, by their keys.
func anyEntries(rnd *rand.Rand, most int) map[string]api.Entry {
	all := map[string]api.Entry{}
	for range 1 + rnd.Intn(most) {
		e := anyEntry(rnd)
		all[e.Key] = e
	}
	return all
}

// anyConfig is small, so that there are soon many tables.
func anyConfig(rnd *rand.Rand) index.Config {
	return index.Config{Mem: 1 + rnd.Intn(6), Fan: 1 + rnd.Intn(3), Part: 1 + rnd.Intn(4), Bits: 1 + rnd.Intn(12)}
}

// anyModel has tables in any levels.
func anyModel(rnd *rand.Rand) *model {
	m := modelOf(anyConfig(rnd))
	if rnd.Intn(4) > 0 {
		m.ahead = anyEntries(rnd, m.c.Mem)
	}
	for range rnd.Intn(5) {
		var level []*sheet
		for range rnd.Intn(6) {
			level = append(level, sheetOf(1+rnd.Intn(5), 1+rnd.Intn(12), sorted(anyEntries(rnd, 8))...))
		}
		m.levels = append(m.levels, level)
	}
	return m
}
