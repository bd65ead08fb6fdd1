package mem_test

import (
	"math/rand"
	"slices"
	"testing"

	"drydock/api"
	"drydock/mem"
)

// model is a Mem, told without the program: what was put last of each key, in no order.
type model map[string]api.Entry

// put lays an entry in.
func (m model) put(e api.Entry) {
	if e.Gone {
		m[e.Key] = api.Entry{Key: e.Key, Gone: true}
	} else {
		m[e.Key] = api.Entry{Key: e.Key, Value: e.Value}
	}
}

// below tells whether a key is ahead of another one: byte by byte, and the begin of a key ahead of that key.
func below(a, b string) bool {
	for i := range len(a) {
		if i == len(b) || a[i] > b[i] {
			return false
		}
		if a[i] < b[i] {
			return true
		}
	}
	return len(a) < len(b)
}

// between are the entries from a key on, up to another one: each one is laid behind all that are below it.
func (m model) between(from, to string) []api.Entry {
	var l []api.Entry
	for key, e := range m {
		if below(key, from) || to != "" && !below(key, to) {
			continue
		}
		at := 0
		for at < len(l) && below(l[at].Key, key) {
			at++
		}
		l = slices.Insert(l, at, e)
	}
	return l
}

// size is how many bytes keys and values have.
func (m model) size() int {
	n := 0
	for key, e := range m {
		n += len(key) + len(e.Value)
	}
	return n
}

// value is an entry with a value.
func value(key, value string) api.Entry { return api.Entry{Key: key, Value: value} }

// gone is an entry that is gone.
func gone(key string) api.Entry { return api.Entry{Key: key, Gone: true} }

// filled is a new Mem, into which entries are put.
func filled(l ...api.Entry) *mem.Mem {
	m := mem.New()
	for _, e := range l {
		m.Put(e)
	}
	return m
}

// wantList checks a list of entries.
func wantList(t *testing.T, what string, got, want []api.Entry) {
	t.Helper()
	if !slices.Equal(got, want) {
		t.Fatalf("%s: %d, %#v, want %d, %#v", what, len(got), got[:min(len(got), 20)], len(want), want[:min(len(want), 20)])
	}
}

// wantEntries checks that a Mem has these entries in this order, by each call that tells of them.
func wantEntries(t *testing.T, m *mem.Mem, want ...api.Entry) {
	t.Helper()
	wantList(t, "Entries", m.Entries(), want)
	wantList(t, "Range of all", m.Range("", ""), want)
	size := 0
	for _, e := range want {
		wantGet(t, m, e)
		size += len(e.Key) + len(e.Value)
	}
	wantSize(t, m, len(want), size)
}

// wantRange checks the entries from a key on, up to another one.
func wantRange(t *testing.T, m *mem.Mem, from, to string, want ...api.Entry) {
	t.Helper()
	if got := m.Range(from, to); !slices.Equal(got, want) {
		t.Fatalf("Range(%q, %q): %#v, want %#v", from, to, got, want)
	}
}

// wantGet checks the entry of a key that is there.
func wantGet(t *testing.T, m *mem.Mem, want api.Entry) {
	t.Helper()
	if got, ok := m.Get(want.Key); got != want || !ok {
		t.Fatalf("Get(%q): %#v, %v, want %#v", want.Key, got, ok, want)
	}
}

// wantNone checks that a key is not there.
func wantNone(t *testing.T, m *mem.Mem, keys ...string) {
	t.Helper()
	for _, key := range keys {
		if got, ok := m.Get(key); got != (api.Entry{}) || ok {
			t.Fatalf("Get(%q): %#v, %v, want none", key, got, ok)
		}
	}
}

// wantSize checks how many entries there are, and how many bytes.
func wantSize(t *testing.T, m *mem.Mem, many, size int) {
	t.Helper()
	if m.Len() != many || m.Size() != size {
		t.Fatalf("Len %d, Size %d, want %d, %d", m.Len(), m.Size(), many, size)
	}
}

// wantAs checks that a Mem answers as a model does, of these keys too.
func wantAs(t *testing.T, m *mem.Mem, as model, keys ...string) {
	t.Helper()
	wantList(t, "Entries", m.Entries(), as.between("", ""))
	wantSize(t, m, len(as), as.size())
	for _, key := range keys {
		if e, ok := as[key]; ok {
			wantGet(t, m, e)
		} else {
			wantNone(t, m, key)
		}
	}
}

// anyKey is picked by rnd: of few bytes, so that many are handed out more than once and many begin alike; some are long.
func anyKey(rnd *rand.Rand) string {
	if rnd.Intn(20) == 0 {
		b := make([]byte, rnd.Intn(300))
		rnd.Read(b)
		return string(b)
	}
	b := make([]byte, rnd.Intn(4))
	for i := range b {
		b[i] = "\x00\x01a\x7f\x80\xff"[rnd.Intn(6)]
	}
	return string(b)
}

// anyEntry is picked by rnd: some are gone, of those some come with a value.
func anyEntry(rnd *rand.Rand) api.Entry {
	return api.Entry{Key: anyKey(rnd), Value: anyKey(rnd), Gone: rnd.Intn(3) == 0}
}

// anyEntries are so many.
func anyEntries(rnd *rand.Rand, n int) []api.Entry {
	var l []api.Entry
	for range n {
		l = append(l, anyEntry(rnd))
	}
	return l
}

// modelOf is a model into which entries are put.
func modelOf(l ...api.Entry) model {
	m := model{}
	for _, e := range l {
		m.put(e)
	}
	return m
}
