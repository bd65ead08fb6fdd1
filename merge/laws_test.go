package merge_test

import (
	"encoding/binary"
	"math/rand"
	"slices"
	"testing"

	"drydock/api"
	"drydock/mem"
	"drydock/merge"
)

// MG3: all ways for three orders to have three keys: each not there, with a value of its own, or gone.
func TestAllWays(t *testing.T) {
	keys := []string{"", "a", "a\x00"}
	var each [][]api.Entry
	for n := range 27 {
		var some []api.Entry
		for _, key := range keys {
			if n%3 > 0 {
				some = append(some, api.Entry{Key: key, Value: "v", Gone: n%3 == 2})
			}
			n /= 3
		}
		each = append(each, some)
	}
	for _, a := range each {
		for _, b := range each {
			for _, c := range each {
				l := copied([][]api.Entry{a, b, c})
				for i, some := range l {
					for j := range some {
						some[j].Value += string([]byte{'0' + byte(i)})
					}
				}
				wantAll(t, l, made(l)...)
			}
		}
	}
}

// MG1, MG3: of any orders come those that are picked one by one, which are what all make, put one behind the other.
func TestAny(t *testing.T) {
	rnd := rand.New(rand.NewSource(1))
	for range 2000 {
		l := anyOrders(rnd, 9)
		want := picked(l)
		wantList(t, "the models", made(l), want)
		wantAll(t, l, want...)
	}
}

// MG3: what comes is what a Mem has into which all are put, the oldest order first.
func TestAsMem(t *testing.T) {
	rnd := rand.New(rand.NewSource(2))
	for range 1000 {
		l, m := anyOrders(rnd, 30), mem.New()
		for _, some := range slices.Backward(l) {
			for _, e := range some {
				m.Put(e)
			}
		}
		wantAll(t, l, m.Entries()...)
	}
}

// MG2: All tells just what New and Next tell, one by one, in order.
func TestAllIsNext(t *testing.T) {
	rnd := rand.New(rand.NewSource(3))
	for range 1000 {
		l := anyOrders(rnd, 12)
		if len(l) > 0 && rnd.Intn(3) == 0 {
			some := l[rnd.Intn(len(l))]
			rnd.Shuffle(len(some), func(i, j int) { some[i], some[j] = some[j], some[i] })
		}
		r, wrong := merge.New(l)
		var want []api.Entry
		for {
			e, ok := r.Next()
			if !ok {
				break
			}
			want = append(want, e)
		}
		all, err := merge.All(l, false)
		some, again := merge.All(l, true)
		if err != wrong || again != wrong {
			t.Fatalf("All: %v, %v, New: %v", err, again, wrong)
		}
		wantList(t, "All", all, want)
		wantList(t, "All but those that are gone", some, kept(want))
	}
}

// MG1: each key is above the one ahead of it, and each that stands somewhere comes.
func TestEachKeyOnce(t *testing.T) {
	rnd := rand.New(rand.NewSource(4))
	for range 500 {
		l := anyOrders(rnd, 20)
		all, err := merge.All(l, false)
		if err != nil {
			t.Fatal(err)
		}
		there := map[string]bool{}
		for i, e := range all {
			if i > 0 && !below(all[i-1].Key, e.Key) {
				t.Fatalf("%q behind %q", e.Key, all[i-1].Key)
			}
			there[e.Key] = true
		}
		for _, e := range slices.Concat(l...) {
			if !there[e.Key] {
				t.Fatalf("%q is missing", e.Key)
			}
		}
	}
}

// MG3: orders of which some were made one ahead make the same, whichever stand together.
func TestMadeAhead(t *testing.T) {
	rnd := rand.New(rand.NewSource(5))
	for range 500 {
		l := append(anyOrders(rnd, 9), anyOrder(rnd, 20))
		want, err := merge.All(l, false)
		if err != nil {
			t.Fatal(err)
		}
		from := rnd.Intn(len(l))
		to := from + rnd.Intn(len(l)-from) + 1
		some, err := merge.All(l[from:to], false)
		if err != nil {
			t.Fatal(err)
		}
		wantAll(t, slices.Concat(l[:from], [][]api.Entry{some}, l[to:]), want...)
		// behind the oldest one nothing can be hidden
		if some, err = merge.All(l[from:], true); err != nil {
			t.Fatal(err)
		}
		got, err := merge.All(slices.Concat(l[:from], [][]api.Entry{some}), true)
		if err != nil {
			t.Fatal(err)
		}
		wantList(t, "All but those that are gone", got, kept(want))
	}
}

// MG3: so it is of many orders, of many entries, and of one key in many orders.
func TestMany(t *testing.T) {
	const many = 20000
	rnd := rand.New(rand.NewSource(6))
	for _, orders := range []int{1, 2, 3, 16, 17, 1000, many} {
		l, newest := make([][]api.Entry, orders), make([]int, many)
		for key := range many {
			newest[key] = orders
			for range 3 {
				i := rnd.Intn(orders)
				if n := len(l[i]); n == 0 || l[i][n-1].Key != numbered(key) {
					l[i] = append(l[i], value(numbered(key), numbered(i)))
				}
				newest[key] = min(newest[key], i)
			}
		}
		var want []api.Entry
		for key, i := range newest {
			want = append(want, value(numbered(key), numbered(i)))
		}
		wantAll(t, l, want...)
	}
	var l [][]api.Entry
	for i := range many {
		l = append(l, []api.Entry{value("a", numbered(i))})
	}
	wantAll(t, l, value("a", numbered(0)))
}

// numbered is a key of a number; keys have the order of numbers.
func numbered(n int) string { return string(binary.BigEndian.AppendUint32(nil, uint32(n))) }
