package index_test

import (
	"bytes"
	"math"
	"math/rand"
	"slices"
	"strings"
	"sync"
	"testing"

	"drydock/api"
	"drydock/index"
)

// use makes every call of an index, its views and its jobs, with keys and a number.
func use(x *index.Index, key, other string, n int) {
	x.Put(key, other)
	x.Drop(other)
	x.Get(key)
	x.Range(key, other)
	v := x.View()
	x.Flush()
	x.Levels()
	x.Held()
	j, _ := x.Compact()
	x.Compact()
	x.Put(other, key)
	j.Step(n)
	j.Step(1)
	v.Get(other)
	v.Range(other, key)
	x.Encode()
	j.Step(n)
	v.Release()
	v.Get(key)
	v.Range(key, "")
	x.Held()
}

// P6: every call ends and none panics, whatever it is given.
func TestTotal(t *testing.T) {
	long := strings.Repeat("\xff", api.MaxBlob+1)
	keys := []string{"", "\x00", "\x01", "a", "\xff\xfe", long[:512], long[:513], long}
	numbers := []int{math.MinInt, -1, 0, 1, 2, 16, 17, 64, 65, 1000, 1001, math.MaxInt32, 1 << 32, math.MaxInt}
	for _, mem := range numbers {
		for _, fan := range numbers {
			index.New(index.Config{Mem: mem, Fan: fan, Part: 1, Bits: 1})
			index.New(index.Config{Mem: 1, Fan: 1, Part: mem, Bits: fan})
		}
	}
	for _, c := range []index.Config{least, some, most} {
		for _, key := range keys {
			for _, other := range keys {
				x := fresh(t, c)
				for _, n := range []int{math.MinInt, -1, 0, 1, 2, math.MaxInt} {
					use(x, key, other, n)
					use(nil, key, other, n)
				}
			}
		}
	}
}

// P6: of bytes of no meaning each call ends, and an index that comes of them can be used.
func TestTotalOfAnyBytes(t *testing.T) {
	rnd := rand.New(rand.NewSource(40))
	there := 0
	for range 10000 {
		var b []byte
		if rnd.Intn(4) == 0 {
			b = make([]byte, rnd.Intn(24))
			for i := range b {
				b[i] = byte(rnd.Intn([]int{2, 4, 18, 256}[rnd.Intn(4)]))
			}
		} else {
			b = anyModel(rnd).bytes()
			b = b[:len(b)-4]
			b[rnd.Intn(len(b))] = byte(rnd.Intn([]int{4, 256}[rnd.Intn(2)]))
		}
		if rnd.Intn(20) > 0 {
			b = sealed(b)
		}
		x, err := index.Decode(b)
		if err == nil {
			there++
			use(x, anyKey(rnd), anyKey(rnd), rnd.Intn(20)-1)
		}
	}
	if there < 300 {
		t.Errorf("only %d are indexes", there)
	}
}

// P6: the same call answers the same, whatever was asked, and of whatever other indexes, between; asking changes nothing.
func TestSameAgain(t *testing.T) {
	rnd := rand.New(rand.NewSource(41))
	for range 100 {
		p := pairOf(t, anyModel(rnd))
		want := encoded(t, p.x)
		for range 4 {
			use(pairOf(t, anyModel(rnd)).x, anyKey(rnd), anyKey(rnd), rnd.Intn(9))
			p.x.Get(anyKey(rnd))
			p.x.Range(anyKey(rnd), anyKey(rnd))
			p.x.View().Release()
			p.x.View().Get(anyKey(rnd))
			p.check()
			wantBytes(t, p.x, want)
			p = &pair{t: t, x: decoded(t, want), m: p.m}
		}
	}
}

// P6: the same done to two indexes makes the same of both.
func TestSameDone(t *testing.T) {
	for seed := range int64(30) {
		var made [][]byte
		for range 2 {
			rnd := rand.New(rand.NewSource(seed))
			p := pairOf(t, anyModel(rnd))
			for range 50 {
				p.any(rnd)
			}
			made = append(made, encoded(t, p.x))
		}
		if !bytes.Equal(made[0], made[1]) {
			t.Fatalf("% x, and again % x", made[0], made[1])
		}
	}
}

// P6: two indexes are apart, of one Config and of the same bytes too, however they take turns.
func TestIndexesApart(t *testing.T) {
	rnd := rand.New(rand.NewSource(42))
	for range 30 {
		m := anyModel(rnd)
		all := []*pair{newPair(t, m.c), newPair(t, m.c)}
		for range 2 {
			all = append(all, pairOf(t, &model{c: m.c, ahead: anyEntries(rnd, m.c.Mem), levels: slices.Clone(m.levels)}))
		}
		for range 100 {
			all[rnd.Intn(len(all))].any(rnd)
		}
		for _, p := range all {
			p.check()
		}
	}
}

// P6: nothing is changed by a call that answers an error.
func TestErrorsChangeNothing(t *testing.T) {
	rnd := rand.New(rand.NewSource(43))
	long := strings.Repeat("a", 513)
	for range 100 {
		p := pairOf(t, anyModel(rnd))
		p.view()
		for range 10 {
			wantErr(t, "Put", p.x.Put(anyKey(rnd), long), api.ErrLong)
			wantErr(t, "Put", p.x.Put(long, anyKey(rnd)), api.ErrLong)
			wantErr(t, "Drop", p.x.Drop(long), api.ErrLong)
			if p.m.job != nil {
				wantNoJob(t, p.x, api.ErrLock)
				wantNoStep(t, p.j, -rnd.Intn(3), api.ErrArg)
			}
			p.check()
			p.work(rnd)
		}
	}
}

// spoil writes over entries and the room behind them.
func spoil(l []api.Entry) {
	l = l[:cap(l)]
	for i := range l {
		l[i] = api.Entry{Key: "spoilt", Value: "spoilt", Gone: !l[i].Gone}
	}
}

// P6: what was handed out may be changed later, the room behind it too, without changing what an index or a view has, nor another answer.
func TestAnswersAlone(t *testing.T) {
	rnd := rand.New(rand.NewSource(44))
	for range 100 {
		p := pairOf(t, anyModel(rnd))
		p.view()
		p.compact()
		has := sorted(p.m.has())
		for _, x := range []asked{p.x, p.views[0], p.x} {
			one, two := x.Range("", ""), x.Range("", "")
			spoil(one)
			_ = append(one, value("spoilt", ""))
			wantList(t, "another answer", two, has)
			spoil(two)
			p.check()
		}
		levels, counts := p.x.Levels(), p.m.counts()
		for i := range levels[:cap(levels)] {
			levels[:cap(levels)][i] = -7
		}
		wantLevels(t, p.x, counts...)
		b, want := encoded(t, p.x), p.m.bytes()
		fill(b)
		wantBytes(t, p.x, want)
		for p.m.job != nil {
			p.step(2)
			b = encoded(t, p.x)
			fill(b)
			spoil(p.x.Range("", ""))
		}
		p.check()
	}
}

// fill writes over bytes and the room behind them.
func fill(b []byte) {
	b = b[:cap(b)]
	for i := range b {
		b[i] ^= 0xff
	}
}

// P6: bytes that were handed in read afterwards as they did, the room behind too, and may be changed without changing the index.
func TestBytesAlone(t *testing.T) {
	rnd := rand.New(rand.NewSource(45))
	for range 100 {
		m := anyModel(rnd)
		want := m.bytes()
		all := slices.Concat([]byte("ahead"), want, []byte("behind"))
		before := bytes.Clone(all)
		in := all[5 : 5+len(want)]
		p := &pair{t: t, x: decoded(t, in), m: m}
		wantNoDecode(t, in[:len(in)-1], api.ErrSum)
		p.view()
		if !bytes.Equal(all, before) {
			t.Fatalf("changed to % x, was % x", all, before)
		}
		fill(all)
		p.check()
		fill(all)
		for range 30 {
			p.any(rnd)
		}
		p.check()
		if !bytes.Equal(all, before) {
			t.Fatalf("an index writes into what it came of: % x, was % x", all, before)
		}
	}
}

// P6: keys and values that were handed in, and a Config, are an index' own.
func TestHandedInAlone(t *testing.T) {
	c := index.Config{Mem: 2, Fan: 1, Part: 2, Bits: 8}
	x, err := index.New(c)
	wantErr(t, "New", err, 0)
	c.Mem = 0
	b := []byte("key value")
	key, v := string(b[:3]), string(b[4:])
	wantErr(t, "Put", x.Put(key, v), 0)
	fill(b)
	wantOnly(t, x, value("key", "value"))
	wantErr(t, "Put", x.Put("z", ""), 0)
	wantErr(t, "Put", x.Put("zz", ""), 0)
	wantLevels(t, x, 1)
}

// P6: indexes that are used at the same time have nothing to do with one another, and one may be asked by many.
func TestAtTheSameTime(t *testing.T) {
	m := anyModel(rand.New(rand.NewSource(46)))
	shared, has := decoded(t, m.bytes()), sorted(m.has())
	v := shared.View()
	var all sync.WaitGroup
	for i := range 8 {
		all.Add(1)
		go func() {
			defer all.Done()
			rnd := rand.New(rand.NewSource(int64(i)))
			x, err := index.Decode(m.bytes())
			if err != nil {
				t.Errorf("Decode: %v", err)
				return
			}
			for range 100 {
				use(x, anyKey(rnd), anyKey(rnd), rnd.Intn(9))
				for _, one := range []asked{shared, v} {
					if l := one.Range("", ""); !slices.Equal(l, has) {
						t.Errorf("Range: %#v, want %#v", l, has)
					}
					for _, e := range has {
						if v, ok := one.Get(e.Key); v != e.Value || !ok {
							t.Errorf("Get(%q): %q, %v", e.Key, v, ok)
						}
					}
				}
			}
		}()
	}
	all.Wait()
}

// IX3: how many hold a table is right, though views are released at the same time, while the index goes on.
func TestReleasedAtTheSameTime(t *testing.T) {
	p := five(t)
	var all sync.WaitGroup
	for range 50 {
		v := p.x.View()
		all.Add(1)
		go func() {
			defer all.Done()
			v.Release()
		}()
	}
	p.merge()
	p.layTable(value("f", ""))
	all.Wait()
	wantHeld(t, p.x, 2)
	p.check()
}
