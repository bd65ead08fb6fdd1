package mem_test

import (
	"math/rand"
	"slices"
	"strings"
	"sync"
	"testing"

	"drydock/api"
	"drydock/mem"
)

// use makes every call of a Mem, with a key and another one.
func use(m *mem.Mem, key, other string) {
	m.Get(key)
	m.Range(key, other)
	m.Put(value(key, other))
	m.Put(api.Entry{Key: other, Value: key, Gone: true})
	m.Get(key)
	m.Len()
	m.Size()
	m.Entries()
	m.Range(other, key)
	m.Range(key, "")
}

// ME2: a nil Mem has nothing, and takes nothing, in each call.
func TestNil(t *testing.T) {
	var m *mem.Mem
	for range 2 {
		wantEntries(t, m)
		wantNone(t, m, ordered...)
		for _, from := range ordered {
			for _, to := range ordered {
				wantRange(t, m, from, to)
			}
		}
		m.Put(value("", ""))
		m.Put(value("a", "x"))
		m.Put(gone("b"))
		wantEntries(t, m)
		wantNone(t, m, "", "a", "b")
		m.Clear()
	}
}

// P6: every call ends and none panics, whatever it is given.
func TestTotal(t *testing.T) {
	long := strings.Repeat("\xff", api.MaxBlob+1)
	keys := append(slices.Clone(ordered), long, long+"\x00", long[1:], print32)
	m := mem.New()
	for _, key := range keys {
		for _, other := range keys {
			use(nil, key, other)
			use(m, key, other)
			use(mem.New(), key, other)
		}
	}
	m.Clear()
	for _, key := range keys {
		use(m, key, "")
	}
}

// print32 is a key of as many bytes as a fingerprint has.
const print32 = "fingerprint of a block, 32 bytes"

// P6: the same call answers the same, whatever was asked, and of whatever other Mems, between; asking changes nothing.
func TestSameAgain(t *testing.T) {
	rnd := rand.New(rand.NewSource(8))
	for range 200 {
		l := anyEntries(rnd, rnd.Intn(30))
		m, key, from, to := filled(l...), anyKey(rnd), anyKey(rnd), anyKey(rnd)
		e, ok := m.Get(key)
		some, all, many, size := m.Range(from, to), m.Entries(), m.Len(), m.Size()
		for range 4 {
			use(filled(anyEntries(rnd, 5)...), anyKey(rnd), anyKey(rnd))
			m.Get(anyKey(rnd))
			m.Range(anyKey(rnd), anyKey(rnd))
			for _, same := range []*mem.Mem{m, filled(l...), filled(all...)} {
				if got, there := same.Get(key); got != e || there != ok {
					t.Fatalf("Get(%q): %#v, %v, was %#v, %v", key, got, there, e, ok)
				}
				wantRange(t, same, from, to, some...)
				wantList(t, "Entries", same.Entries(), all)
				wantSize(t, same, many, size)
			}
		}
	}
}

// spoil writes over entries and the room behind them.
func spoil(l []api.Entry) {
	l = l[:cap(l)]
	for i := range l {
		l[i] = api.Entry{Key: "spoilt", Value: "spoilt", Gone: !l[i].Gone}
	}
}

// P6: what was handed out does not change by what is put, and dropped, later.
func TestAnswersStay(t *testing.T) {
	rnd := rand.New(rand.NewSource(9))
	for range 300 {
		m := filled(anyEntries(rnd, rnd.Intn(30))...)
		from, to, key := anyKey(rnd), anyKey(rnd), anyKey(rnd)
		all, some := m.Entries(), m.Range(from, to)
		rest, e := m.Range(from, ""), api.Entry{}
		e, _ = m.Get(key)
		wantAll, wantSome, wantRest, wantOne := slices.Clone(all), slices.Clone(some), slices.Clone(rest), e
		for _, later := range anyEntries(rnd, 20) {
			m.Put(later)
		}
		for _, later := range wantAll {
			m.Put(api.Entry{Key: later.Key, Value: "later", Gone: !later.Gone})
		}
		if rnd.Intn(2) == 0 {
			m.Clear()
			m.Put(value(key, "behind"))
		}
		wantList(t, "Entries of old", all, wantAll)
		wantList(t, "Range of old", some, wantSome)
		wantList(t, "Range to the end of old", rest, wantRest)
		if e != wantOne {
			t.Fatalf("Get of old: %#v, was %#v", e, wantOne)
		}
	}
}

// P6: changing what was handed out, the room behind it too, changes nothing of the Mem, nor of another answer.
func TestAnswersAlone(t *testing.T) {
	rnd := rand.New(rand.NewSource(10))
	for range 300 {
		m := filled(anyEntries(rnd, rnd.Intn(30))...)
		from, to := anyKey(rnd), anyKey(rnd)
		all, want := m.Entries(), slices.Clone(m.Entries())
		some, wantSome := m.Range(from, to), slices.Clone(m.Range(from, to))
		ask := []func() []api.Entry{m.Entries, func() []api.Entry { return m.Range("", "") }, func() []api.Entry { return m.Range(from, "") }, func() []api.Entry { return m.Range(from, to) }, func() []api.Entry { return m.Range(to, from) }}
		for _, again := range ask {
			l := again()
			spoil(l)
			_ = append(l, value("spoilt", "more"))
			_ = append(l[:0], value("spoilt", "instead"))
			wantList(t, "Entries of old", all, want)
			wantList(t, "Range of old", some, wantSome)
			wantEntries(t, m, want...)
			wantRange(t, m, from, to, wantSome...)
		}
		m.Put(value("spoilt", "not"))
		as := modelOf(append(slices.Clone(want), value("spoilt", "not"))...)
		wantAs(t, m, as, "spoilt")
	}
}

// P6: the entry that Get answers is one's own, and so is that which is put.
func TestEntryAlone(t *testing.T) {
	m := mem.New()
	e := value("a", "x")
	m.Put(e)
	e.Key, e.Value, e.Gone = "b", "y", true
	wantEntries(t, m, value("a", "x"))
	got, _ := m.Get("a")
	got.Key, got.Value, got.Gone = "c", "z", true
	wantEntries(t, m, value("a", "x"))
	odd := api.Entry{Key: "a", Value: "kept", Gone: true}
	m.Put(odd)
	if odd != (api.Entry{Key: "a", Value: "kept", Gone: true}) {
		t.Fatalf("what was put became %#v", odd)
	}
}

// P6: Mems have nothing to do with one another.
func TestMemsAlone(t *testing.T) {
	rnd := rand.New(rand.NewSource(11))
	for range 200 {
		l := anyEntries(rnd, rnd.Intn(20))
		one, two, none := filled(l...), filled(l...), mem.New()
		want := one.Entries()
		use(two, anyKey(rnd), anyKey(rnd))
		wantEntries(t, one, want...)
		wantEntries(t, none)
		two.Clear()
		wantEntries(t, one, want...)
		three := filled(want...)
		one.Clear()
		one.Put(value("other", ""))
		wantEntries(t, three, want...)
	}
}

// P6: Mems that are used at the same time have nothing to do with one another, and one that is only asked can be asked by many.
func TestAtTheSameTime(t *testing.T) {
	shared, want := filled(laid()...), laid()
	var all sync.WaitGroup
	for i := range 8 {
		all.Add(1)
		go func() {
			defer all.Done()
			rnd := rand.New(rand.NewSource(int64(i)))
			for range 200 {
				l := anyEntries(rnd, rnd.Intn(20))
				if got, as := filled(l...).Entries(), modelOf(l...).between("", ""); !slices.Equal(got, as) {
					t.Errorf("%#v: %#v, want %#v", l, got, as)
				}
				e := want[rnd.Intn(len(want))]
				if got, ok := shared.Get(e.Key); got != e || !ok {
					t.Errorf("Get(%q): %#v, %v", e.Key, got, ok)
				}
				if got := shared.Range(e.Key, e.Key+"\x00"); !slices.Equal(got, []api.Entry{e}) || shared.Len() != len(want) || !slices.Equal(shared.Entries(), want) {
					t.Errorf("Range of %q: %#v; Len %d", e.Key, got, shared.Len())
				}
				spoil(shared.Range("", e.Key))
			}
		}()
	}
	all.Wait()
}
