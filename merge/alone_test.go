package merge_test

import (
	"math/rand"
	"slices"
	"strings"
	"sync"
	"testing"

	"drydock/api"
	"drydock/merge"
)

// spoil writes over entries and the room behind them.
func spoil(l []api.Entry) {
	l = l[:cap(l)]
	for i := range l {
		l[i] = api.Entry{Key: "spoilt", Value: "spoilt", Gone: !l[i].Gone}
	}
}

// P6: every call ends and none panics, whatever it is given.
func TestTotal(t *testing.T) {
	long := strings.Repeat("\xff", api.MaxBlob+1)
	orders := [][]api.Entry{nil, {}, put(""), put("a", "b"), put("b", "a"), {{}, {}}, put(long), put(long[1:], long), put(long, long[1:]), {{Key: "a", Value: long}}, {{Key: "a", Value: long, Gone: true}}}
	for _, a := range orders {
		for _, b := range orders {
			for _, c := range orders {
				l := [][]api.Entry{a, b, c}
				merge.All(l, false)
				merge.All(l, true)
				r, _ := merge.New(l)
				for range 9 {
					r.Next()
				}
				wantEnd(t, r)
			}
		}
	}
}

// P6: the same call answers the same, whatever was asked, and of whatever other orders, between.
func TestSameAgain(t *testing.T) {
	rnd := rand.New(rand.NewSource(7))
	for range 200 {
		l := anyOrders(rnd, 9)
		want := made(l)
		for range 4 {
			other := anyOrders(rnd, 9)
			merge.All(other, false)
			merge.All([][]api.Entry{put("b", "a")}, true)
			reader(t, other).Next()
			wantAll(t, l, want...)
			wantAll(t, copied(l), want...)
		}
	}
}

// P6: two Readers of the same orders, and of others, are apart, however they take turns.
func TestReadersApart(t *testing.T) {
	rnd := rand.New(rand.NewSource(8))
	for range 300 {
		l, other := anyOrders(rnd, 9), anyOrders(rnd, 9)
		readers := []*merge.Reader{reader(t, l), reader(t, l), reader(t, other)}
		left := [][]api.Entry{made(l), made(l), made(other)}
		for range 100 {
			i := rnd.Intn(len(readers))
			if rnd.Intn(10) == 0 { // another one, of the begin
				readers, left = append(readers, reader(t, l)), append(left, made(l))
			}
			if len(left[i]) == 0 {
				wantEnd(t, readers[i])
			} else {
				wantNext(t, readers[i], left[i][0])
				left[i] = left[i][1:]
			}
		}
		for i, r := range readers {
			wantNext(t, r, left[i]...)
			wantEnd(t, r)
		}
	}
}

// P6: what was handed in reads afterwards as it did, what is ahead and the room behind too.
func TestNothingChanged(t *testing.T) {
	rnd := rand.New(rand.NewSource(9))
	for range 300 {
		l := append(anyOrders(rnd, 9), anyOrder(rnd, 20))
		var in, whole [][]api.Entry
		for _, some := range l {
			all := slices.Concat(put("ahead"), some, anyOrder(rnd, 5))
			whole, in = append(whole, all), append(in, all[1:1+len(some)])
		}
		outer := slices.Concat([][]api.Entry{put("ahead")}, in, [][]api.Entry{put("behind")})
		before, seen := copied(whole), copied(outer)
		wantAll(t, outer[1:1+len(in)], made(l)...)
		merge.New(whole)
		merge.All(whole, true)
		for i, all := range whole {
			wantList(t, "what was handed in", all, before[i])
		}
		for i, some := range outer {
			wantList(t, "an order of what was handed in", some, seen[i])
		}
	}
}

// P6: what was handed in may be changed later, the room behind too, without changing what comes: at the begin, and between.
func TestNothingKept(t *testing.T) {
	rnd := rand.New(rand.NewSource(10))
	for range 500 {
		l := append(anyOrders(rnd, 9), anyOrder(rnd, 20))
		want := made(l)
		r, ahead := reader(t, l), rnd.Intn(len(want)+1)
		wantNext(t, r, want[:ahead]...)
		all, err := merge.All(l, false)
		if err != nil {
			t.Fatal(err)
		}
		for i := range l {
			spoil(l[i])
			l[i] = put("spoilt")
		}
		wantNext(t, r, want[ahead:]...)
		wantEnd(t, r)
		wantList(t, "All of old", all, want)
	}
}

// P6: orders may share memory with one another, as what is handed in may.
func TestSharedOrders(t *testing.T) {
	rnd := rand.New(rand.NewSource(11))
	for range 300 {
		all := anyOrder(rnd, 40)
		var l [][]api.Entry
		for range rnd.Intn(6) {
			from := rnd.Intn(len(all) + 1)
			l = append(l, all[from:from+rnd.Intn(len(all)-from+1)])
		}
		wantAll(t, l, made(l)...)
		wantAll(t, slices.Repeat([][]api.Entry{all}, 4), made([][]api.Entry{all})...)
	}
}

// P6: changing what was handed out, the room behind it too, changes nothing of what comes, nor of what was handed in, nor of another answer.
func TestAnswersAlone(t *testing.T) {
	rnd := rand.New(rand.NewSource(12))
	for range 300 {
		l := append(anyOrders(rnd, 9), anyOrder(rnd, 20))
		before, want := copied(l), made(l)
		r, ahead := reader(t, l), rnd.Intn(len(want)+1)
		wantNext(t, r, want[:ahead]...)
		old, err := merge.All(l, false)
		if err != nil {
			t.Fatal(err)
		}
		for _, drop := range []bool{false, true} {
			for _, orders := range [][][]api.Entry{l, {want}} {
				got, err := merge.All(orders, drop)
				if err != nil {
					t.Fatal(err)
				}
				spoil(got)
				_ = append(got, put("spoilt")...)
				_ = append(got[:0], put("spoilt", "instead")...)
			}
		}
		wantList(t, "All of old", old, want)
		wantNext(t, r, want[ahead:]...)
		for i, some := range l {
			wantList(t, "what was handed in", some, before[i])
		}
		wantAll(t, l, want...)
	}
}

// P6: an entry that Next answers is one's own, and nothing that comes later changes it.
func TestEntryAlone(t *testing.T) {
	l := [][]api.Entry{{value("a", "x"), value("b", "y")}, {value("a", "z"), gone("c")}}
	r := reader(t, l)
	e, _ := r.Next()
	kept := e
	e.Key, e.Value, e.Gone = "b", "spoilt", true
	wantNext(t, r, value("b", "y"), gone("c"))
	wantEnd(t, r)
	if kept != value("a", "x") {
		t.Fatalf("what came became %#v", kept)
	}
	wantAll(t, l, value("a", "x"), value("b", "y"), gone("c"))
}

// P6: Readers that are used at the same time, of the same orders, have nothing to do with one another.
func TestAtTheSameTime(t *testing.T) {
	rnd := rand.New(rand.NewSource(13))
	var l [][]api.Entry
	for range 9 {
		l = append(l, anyOrder(rnd, 60))
	}
	want := made(l)
	var all sync.WaitGroup
	for range 8 {
		all.Add(1)
		go func() {
			defer all.Done()
			for range 100 {
				r, err := merge.New(l)
				if err != nil {
					t.Errorf("New: %v", err)
					return
				}
				for _, e := range want {
					if got, ok := r.Next(); got != e || !ok {
						t.Errorf("Next: %#v, %v, want %#v", got, ok, e)
						return
					}
				}
				if got, err := merge.All(l, true); err != nil || !slices.Equal(got, kept(want)) {
					t.Errorf("All: %#v, %v", got, err)
				}
			}
		}()
	}
	all.Wait()
}
