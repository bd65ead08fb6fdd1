package mem_test

import (
	"encoding/binary"
	"math/rand"
	"slices"
	"testing"

	"drydock/api"
	"drydock/mem"
)

// ME2: what a key has is what was put last, whatever else is put: behind each step all is as the model says.
func TestLast(t *testing.T) {
	rnd := rand.New(rand.NewSource(3))
	for range 200 {
		m, as := mem.New(), model{}
		var keys []string
		for range rnd.Intn(60) {
			e := anyEntry(rnd)
			m.Put(e)
			as.put(e)
			keys = append(keys, e.Key, anyKey(rnd))
			if rnd.Intn(40) == 0 {
				m.Clear()
				clear(as)
			}
			wantAs(t, m, as, keys...)
			from, to := anyKey(rnd), anyKey(rnd)
			wantRange(t, m, from, to, as.between(from, to)...)
		}
	}
}

// ME2: so it is of all ways to put up to five entries of three keys, each with a value, with another one, or gone.
func TestLastOfEach(t *testing.T) {
	var kinds []api.Entry
	for _, key := range []string{"", "a", "a\x00"} {
		kinds = append(kinds, value(key, ""), value(key, "x"), gone(key))
	}
	all := [][]api.Entry{nil}
	for len(all[0]) < 5 {
		var longer [][]api.Entry
		for _, l := range all {
			wantAs(t, filled(l...), modelOf(l...), "", "a", "a\x00", "b")
			for _, e := range kinds {
				longer = append(longer, append(slices.Clone(l), e))
			}
		}
		all = longer
	}
	for _, l := range all {
		wantAs(t, filled(l...), modelOf(l...), "", "a", "a\x00", "b")
	}
}

// ME2: what other keys have changes nothing of a key, and it nothing of them.
func TestOthersStay(t *testing.T) {
	rnd := rand.New(rand.NewSource(4))
	for range 500 {
		l := anyEntries(rnd, rnd.Intn(30))
		m, as := filled(l...), modelOf(l...)
		e := anyEntry(rnd)
		m.Put(e)
		as.put(e)
		for key, other := range as {
			wantGet(t, m, other)
			if key != e.Key {
				m.Put(other)
			}
		}
		wantGet(t, m, as[e.Key])
		wantAs(t, m, as)
	}
}

// ME2: the order in which unlike keys are put changes nothing: each order of six keys.
func TestEachOrder(t *testing.T) {
	want := []api.Entry{value("", "x"), gone("\x00"), value("a", ""), value("a\x00", "y"), gone("aa"), value("\xff", "z")}
	orders(slices.Clone(want), 0, func(l []api.Entry) { wantEntries(t, filled(l...), want...) })
}

// orders hands over each order of what stands from a place on.
func orders(l []api.Entry, at int, use func([]api.Entry)) {
	if at == len(l) {
		use(l)
		return
	}
	for i := at; i < len(l); i++ {
		l[at], l[i] = l[i], l[at]
		orders(l, at+1, use)
		l[at], l[i] = l[i], l[at]
	}
}

// ME2: nor does the order of many unlike keys, nor what they had before.
func TestAnyOrder(t *testing.T) {
	rnd := rand.New(rand.NewSource(5))
	for range 200 {
		l := modelOf(anyEntries(rnd, rnd.Intn(60))...).between("", "")
		want := slices.Clone(l)
		for range 4 {
			rnd.Shuffle(len(l), func(i, j int) { l[i], l[j] = l[j], l[i] })
			wantEntries(t, filled(l...), want...)
			m := filled(slices.Concat(anyOlder(rnd, l), l)...)
			wantEntries(t, m, want...)
		}
	}
}

// anyOlder are entries of some of the keys of others.
func anyOlder(rnd *rand.Rand, l []api.Entry) []api.Entry {
	var older []api.Entry
	for _, e := range l {
		for range rnd.Intn(3) {
			older = append(older, api.Entry{Key: e.Key, Value: anyKey(rnd), Gone: rnd.Intn(2) == 0})
		}
	}
	return older
}

// ME2: what is put again, as it is there, changes nothing.
func TestAgain(t *testing.T) {
	rnd := rand.New(rand.NewSource(6))
	for range 200 {
		m := filled(anyEntries(rnd, rnd.Intn(40))...)
		want := m.Entries()
		for _, i := range rnd.Perm(len(want)) {
			m.Put(want[i])
			wantEntries(t, m, want...)
		}
	}
}

// ME2: of many keys, that come in order, backwards and in any order, each has what was put last.
func TestMany(t *testing.T) {
	const many = 20000
	rnd := rand.New(rand.NewSource(7))
	forth, back := make([]int, many), make([]int, many)
	for i := range many {
		forth[i], back[i] = i, many-1-i
	}
	var want []api.Entry
	for i := range many {
		want = append(want, value(numbered(i), "new"))
	}
	for _, order := range [][]int{forth, back, rnd.Perm(many)} {
		m := mem.New()
		for _, i := range order {
			m.Put(gone(numbered(i)))
		}
		for _, i := range rnd.Perm(many) {
			m.Put(value(numbered(i), "new"))
		}
		wantEntries(t, m, want...)
		for range 100 {
			i, j := rnd.Intn(many), 1+rnd.Intn(many-1)
			wantRange(t, m, numbered(i), numbered(j), want[i:max(i, j)]...)
		}
	}
}

// numbered is a key of a number; keys have the order of numbers.
func numbered(n int) string { return string(binary.BigEndian.AppendUint32(nil, uint32(n))) }
