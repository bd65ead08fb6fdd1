package table_test

import (
	"bytes"
	"math/rand"
	"slices"
	"testing"

	"drydock/api"
	"drydock/table"
)

// TB3: of four keys each is there or not, with a value or gone: what was built is there, in parts of any size, and nothing else.
func TestWhatWasBuilt(t *testing.T) {
	keys := []string{"", "a", "a\x00", "b"}
	for n := range 81 { // each key: not there, with a value, gone
		var l []api.Entry
		for _, key := range keys {
			if n%3 > 0 {
				l = append(l, api.Entry{Key: key, Value: "v" + key, Gone: n%3 == 2})
			}
			n /= 3
		}
		if len(l) == 0 {
			continue
		}
		for part := 1; part <= 5; part++ {
			for _, bits := range []int{1, 2, 20} {
				x := made(t, l, part, bits)
				wantAs(t, x, l, part, bits)
				for _, key := range append(near(l), keys...) {
					wantKey(t, x, l, part, bits, key)
				}
			}
		}
	}
}

// TB3: of any entries each is there, and no key between.
func TestWhatWasBuiltOfAny(t *testing.T) {
	rnd := rand.New(rand.NewSource(4))
	for range 150 {
		l, part, bits := anyEntries(rnd, 60), 1+rnd.Intn(20), 1+rnd.Intn(12)
		x := made(t, l, part, bits)
		there := map[string]api.Entry{}
		for _, e := range told(l) {
			there[e.Key] = e
			wantGet(t, x, e)
			if i := x.Find(e.Key); i < 0 || !slices.Contains(partAt(t, x, i), e) {
				t.Fatalf("%#v is not in its part %d", e, i)
			}
		}
		for _, key := range near(l) {
			if _, ok := there[key]; !ok {
				wantNoGet(t, x, key, 0)
			}
		}
	}
}

// partAt is a part's entries.
func partAt(t *testing.T, x *table.Table, i int) []api.Entry {
	t.Helper()
	l, err := x.Part(i)
	wantErr(t, "Part", err, 0)
	return l
}

// TB3: the parts are all entries, one behind the other, and no part is empty.
func TestPartsAreAll(t *testing.T) {
	rnd := rand.New(rand.NewSource(5))
	for range 300 {
		l, part := anyEntries(rnd, 60), 1+rnd.Intn(20)
		x := made(t, l, part, 5)
		var all []api.Entry
		for i := range x.Parts() {
			some := partAt(t, x, i)
			if len(some) != part && (i < x.Parts()-1 || len(some) == 0 || len(some) > part) {
				t.Fatalf("part %d of %d has %d entries, want %d", i, x.Parts(), len(some), part)
			}
			all = append(all, some...)
		}
		wantList(t, "the parts", all, told(l))
		wantAll(t, x, all...)
		if len(all) != x.Len() || all[0].Key != x.First() || all[len(all)-1].Key != x.Last() {
			t.Fatalf("%d entries from %q to %q, told as %d from %q to %q", len(all), all[0].Key, all[len(all)-1].Key, x.Len(), x.First(), x.Last())
		}
	}
}

// TB3: a table that is built of a table's entries has the same bytes, and in other parts the same entries.
func TestBuiltAgain(t *testing.T) {
	rnd := rand.New(rand.NewSource(6))
	for range 300 {
		l, part, bits := anyEntries(rnd, 60), 1+rnd.Intn(20), 1+rnd.Intn(mostBits)
		b := built(t, l, part, bits)
		all, err := opened(t, b).Entries()
		wantErr(t, "Entries", err, 0)
		if again := built(t, all, part, bits); !bytes.Equal(again, b) {
			t.Fatalf("% x, built again % x", b, again)
		}
		wantAll(t, made(t, all, 1+rnd.Intn(20), 1+rnd.Intn(mostBits)), told(l)...)
	}
}
