package merge_test

import (
	"errors"
	"math/rand"
	"slices"
	"testing"

	"drydock/api"
	"drydock/merge"
)

// below tells whether a key is ahead of another one: byte by byte, and the begin of a key ahead of that key.
func below(a, b string) bool {
	for i := range len(a) {
		if i == len(b) || a[i] > b[i] {
			return false
		}
		if a[i] < b[i] {
			return true
		}
	}
	return len(a) < len(b)
}

// told is an entry as it is told: one that is gone has no value.
func told(e api.Entry) api.Entry {
	if e.Gone {
		return gone(e.Key)
	}
	return value(e.Key, e.Value)
}

// made are what entries make that are put one behind the other, the oldest order first: each one in place of what its key had, or ahead of the first key above.
func made(l [][]api.Entry) []api.Entry {
	var all []api.Entry
	for i := len(l) - 1; i >= 0; i-- {
		for _, e := range l[i] {
			at := 0
			for at < len(all) && below(all[at].Key, e.Key) {
				at++
			}
			if at < len(all) && all[at].Key == e.Key {
				all[at] = told(e)
			} else {
				all = slices.Insert(all, at, told(e))
			}
		}
	}
	return all
}

// picked are the entries that Next's rule names, one by one: of those above all that came the least, of these that of the first order.
func picked(l [][]api.Entry) []api.Entry {
	var all []api.Entry
	for {
		var best *api.Entry
		for _, some := range l {
			for i, e := range some {
				above := len(all) == 0 || below(all[len(all)-1].Key, e.Key)
				if above && (best == nil || below(e.Key, best.Key)) {
					best = &some[i]
				}
			}
		}
		if best == nil {
			return all
		}
		all = append(all, told(*best))
	}
}

// kept are those that are not gone.
func kept(l []api.Entry) []api.Entry {
	var some []api.Entry
	for _, e := range l {
		if !e.Gone {
			some = append(some, e)
		}
	}
	return some
}

// value is an entry with a value.
func value(key, value string) api.Entry { return api.Entry{Key: key, Value: value} }

// gone is an entry that is gone.
func gone(key string) api.Entry { return api.Entry{Key: key, Gone: true} }

// put are entries of these keys without values.
func put(keys ...string) []api.Entry {
	var l []api.Entry
	for _, key := range keys {
		l = append(l, value(key, ""))
	}
	return l
}

// anyKey is picked by rnd: of few bytes, so that many are alike and begin alike; some are long.
func anyKey(rnd *rand.Rand) string {
	b := make([]byte, rnd.Intn(4))
	if rnd.Intn(20) == 0 {
		b = make([]byte, rnd.Intn(300))
	}
	for i := range b {
		b[i] = "\x00\x01a\x7f\x80\xff"[rnd.Intn(6)]
	}
	return string(b)
}

// anyOrder is picked by rnd: fewer entries than so many, in order, some of them gone, of these some with a value.
func anyOrder(rnd *rand.Rand, below int) []api.Entry {
	var l []api.Entry
	for range rnd.Intn(below) {
		l = append(l, api.Entry{Key: anyKey(rnd), Value: anyKey(rnd), Gone: rnd.Intn(3) == 0})
	}
	slices.SortFunc(l, func(a, b api.Entry) int { return slices.Compare([]byte(a.Key), []byte(b.Key)) })
	return slices.CompactFunc(l, func(a, b api.Entry) bool { return a.Key == b.Key })
}

// anyOrders are fewer than so many.
func anyOrders(rnd *rand.Rand, below int) [][]api.Entry {
	var l [][]api.Entry
	for range rnd.Intn(below) {
		l = append(l, anyOrder(rnd, 20))
	}
	return l
}

// copied are orders that share no memory with others.
func copied(l [][]api.Entry) [][]api.Entry {
	l = slices.Clone(l)
	for i := range l {
		l[i] = slices.Clone(l[i])
	}
	return l
}

// wantList checks entries.
func wantList(t *testing.T, what string, got, want []api.Entry) {
	t.Helper()
	if !slices.Equal(got, want) {
		t.Fatalf("%s: %d, %#v, want %d, %#v", what, len(got), got[:min(len(got), 9)], len(want), want[:min(len(want), 9)])
	}
}

// reader goes over orders, in which all keys are in order.
func reader(t *testing.T, l [][]api.Entry) *merge.Reader {
	t.Helper()
	r, err := merge.New(l)
	if r == nil || err != nil {
		t.Fatalf("New of %d orders: %v, %v", len(l), r, err)
	}
	return r
}

// wantNext checks what comes next.
func wantNext(t *testing.T, r *merge.Reader, want ...api.Entry) {
	t.Helper()
	for i, e := range want {
		if got, ok := r.Next(); got != e || !ok {
			t.Fatalf("Next, %d of %d: %#v, %v, want %#v", i, len(want), got, ok, e)
		}
	}
}

// wantEnd checks that there is no more, and that it stays so.
func wantEnd(t *testing.T, r *merge.Reader) {
	t.Helper()
	for range 5 {
		if e, ok := r.Next(); e != (api.Entry{}) || ok {
			t.Fatalf("Next behind the last one: %#v, %v", e, ok)
		}
	}
}

// wantAll checks what comes of orders, by each call that tells it.
func wantAll(t *testing.T, l [][]api.Entry, want ...api.Entry) {
	t.Helper()
	r := reader(t, l)
	wantNext(t, r, want...)
	wantEnd(t, r)
	for _, drop := range []bool{false, true} {
		got, err := merge.All(l, drop)
		if err != nil {
			t.Fatalf("All of %d orders, %v: %v", len(l), drop, err)
		}
		if drop {
			wantList(t, "All but those that are gone", got, kept(want))
		} else {
			wantList(t, "All", got, want)
		}
	}
}

// wantErr checks which number an error has.
func wantErr(t *testing.T, what string, err error, want api.Errno) {
	t.Helper()
	var got api.Errno
	if !errors.As(err, &got) || got != want {
		t.Fatalf("%s: error %v, want %d", what, err, want)
	}
}

// wantNone checks that nothing comes of orders, as one of them has keys that are not in order.
func wantNone(t *testing.T, l [][]api.Entry) {
	t.Helper()
	r, err := merge.New(l)
	if wantErr(t, "New", err, api.ErrOrder); r != nil {
		t.Fatalf("New of %#v: a reader beside an error", l)
	}
	for _, drop := range []bool{false, true} {
		all, err := merge.All(l, drop)
		if wantErr(t, "All", err, api.ErrOrder); all != nil {
			t.Fatalf("All of %#v, %v: %#v beside an error", l, drop, all)
		}
	}
}
