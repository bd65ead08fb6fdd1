package index_test

import (
	"bytes"
	"maps"
	"math/rand"
	"testing"

	"drydock/api"
	"drydock/index"
)

// work begins a job, or goes a step of it.
func (p *pair) work(rnd *rand.Rand) {
	p.t.Helper()
	if p.m.job == nil || rnd.Intn(8) == 0 {
		p.compact()
		return
	}
	p.step([]int{0, 1, 1, 2, rnd.Intn(9), 100}[rnd.Intn(6)])
}

// any does anything.
func (p *pair) any(rnd *rand.Rand) {
	p.t.Helper()
	switch rnd.Intn(20) {
	case 0:
		p.flush()
	case 1:
		p.view()
	case 2:
		if n := len(p.views); n > 0 {
			p.release(rnd.Intn(n))
		}
	case 3:
		if rnd.Intn(3) == 0 {
			p.again()
		}
	case 4, 5, 6, 7, 8:
		p.work(rnd)
	default:
		p.lay(anyEntry(rnd))
	}
}

// again goes on with what comes of the index' bytes: no job runs there, and no view holds any of its tables.
func (p *pair) again() {
	p.t.Helper()
	p.x = decoded(p.t, encoded(p.t, p.x))
	p.m = &model{c: p.m.c, ahead: p.m.ahead, levels: p.m.levels}
	p.j, p.views = nil, nil
}

// IX1 to IX5: whatever is done, one behind the other, behind each step all is as the model says.
func TestAny(t *testing.T) {
	rnd := rand.New(rand.NewSource(1))
	for range 100 {
		p := newPair(t, anyConfig(rnd))
		for range rnd.Intn(100) {
			p.any(rnd)
			p.check(anyKey(rnd), anyKey(rnd))
		}
	}
}

// IX1 to IX5: so it is of an index that has tables in any levels at first.
func TestAnyLevels(t *testing.T) {
	rnd := rand.New(rand.NewSource(2))
	for range 100 {
		p := pairOf(t, anyModel(rnd))
		p.check()
		for range rnd.Intn(60) {
			p.any(rnd)
			p.check(anyKey(rnd), anyKey(rnd))
		}
	}
}

// IX5: what a key has is what was put last: a plain map has the same, whatever is flushed and merged between.
func TestLast(t *testing.T) {
	rnd := rand.New(rand.NewSource(3))
	for range 300 {
		x, has := fresh(t, anyConfig(rnd)), map[string]api.Entry{}
		var j *index.Job
		for range rnd.Intn(200) {
			switch rnd.Intn(6) {
			case 0:
				wantErr(t, "Flush", x.Flush(), 0)
			case 1, 2:
				if j == nil {
					j, _ = x.Compact()
				} else if done, err := j.Step(1 + rnd.Intn(4)); done || err != nil {
					j = nil
				}
			default:
				e := anyEntry(rnd)
				if e.Gone {
					wantErr(t, "Drop", x.Drop(e.Key), 0)
					delete(has, e.Key)
				} else {
					wantErr(t, "Put", x.Put(e.Key, e.Value), 0)
					has[e.Key] = e
				}
			}
			e, there := has[anyKey(rnd)]
			if v, ok := x.Get(e.Key); there && (v != e.Value || !ok) {
				t.Fatalf("Get(%q): %q, %v, want %q", e.Key, v, ok, e.Value)
			}
		}
		wantHas(t, x, has)
	}
}

// IX5: all ways to put two keys, or drop one, to flush, to begin a job and to go a step of it, six behind one another.
func TestLastOfAllWays(t *testing.T) {
	const ways = 7
	c := index.Config{Mem: 1, Fan: 1, Part: 1, Bits: 2}
	all := 1
	for range 6 {
		all *= ways
	}
	for n := range all {
		x, has := fresh(t, c), map[string]api.Entry{}
		var j *index.Job
		for i := range 6 {
			put := value("a", string([]byte{byte('0' + i)}))
			switch n % ways {
			case 0:
				put.Key = "b"
				fallthrough
			case 1:
				x.Put(put.Key, put.Value)
				has[put.Key] = put
			case 2:
				x.Drop("a")
				delete(has, "a")
			case 3:
				x.Flush()
			case 4:
				if work, err := x.Compact(); err == nil {
					j = work
				}
			case 5:
				j.Step(1)
			case 6:
				j.Step(9)
			}
			n /= ways
		}
		for _, key := range []string{"a", "b"} {
			e, there := has[key]
			if v, ok := x.Get(key); v != e.Value || ok != there {
				t.Fatalf("way %d: Get(%q): %q, %v, want %q, %v", n, key, v, ok, e.Value, there)
			}
		}
		wantList(t, "Range", x.Range("", ""), sorted(has))
	}
}

// IX5: flushes and jobs change nothing of what is there, whenever they come, till there is no more to merge.
func TestMergedAll(t *testing.T) {
	rnd := rand.New(rand.NewSource(4))
	for range 200 {
		p := pairOf(t, anyModel(rnd))
		has := p.m.has()
		if rnd.Intn(2) == 0 {
			p.flush()
			wantHas(t, p.x, has)
		}
		for {
			p.compact()
			if p.m.job == nil {
				break
			}
			for !p.step(1 + rnd.Intn(3)) {
				wantHas(t, p.x, has)
			}
			wantHas(t, p.x, has)
		}
		for _, n := range p.x.Levels() {
			if n > p.m.c.Fan {
				t.Fatalf("Levels: %v, of at most %d tables", p.x.Levels(), p.m.c.Fan)
			}
		}
		p.check()
	}
}

// IX5: two indexes to which the same is put have the same, however each is laid, flushed and merged.
func TestSameHoweverLaid(t *testing.T) {
	rnd := rand.New(rand.NewSource(5))
	for range 100 {
		a, b := newPair(t, anyConfig(rnd)), newPair(t, anyConfig(rnd))
		for range rnd.Intn(100) {
			e := anyEntry(rnd)
			for _, p := range []*pair{a, b} {
				p.lay(e)
				for rnd.Intn(3) == 0 {
					p.work(rnd)
				}
			}
		}
		wantHas(t, a.x, b.m.has())
		wantHas(t, b.x, a.m.has())
		if !maps.Equal(a.m.has(), b.m.has()) {
			t.Fatal("the models are not alike")
		}
	}
}

// IX5: many keys, by steps that come with the puts, as an index is used.
func TestMany(t *testing.T) {
	rnd := rand.New(rand.NewSource(6))
	x, has := fresh(t, index.Config{Mem: 50, Fan: 4, Part: 16, Bits: 10}), map[string]api.Entry{}
	var j *index.Job
	for range 8000 {
		key := numbered(rnd.Intn(2000))
		if rnd.Intn(4) == 0 {
			wantErr(t, "Drop", x.Drop(key), 0)
			delete(has, key)
		} else {
			wantErr(t, "Put", x.Put(key, anyKey(rnd)), 0)
			v, _ := x.Get(key)
			has[key] = value(key, v)
		}
		if j == nil {
			j, _ = x.Compact()
		} else if done, err := j.Step(60); done || err != nil {
			j = nil
		}
	}
	wantHas(t, x, has, numbered(2000))
	if l := x.Levels(); len(l) != 2 || l[0] > 20 {
		t.Fatalf("Levels: %v", l)
	}
	if !bytes.Equal(encoded(t, x), encoded(t, decoded(t, encoded(t, x)))) {
		t.Fatal("the bytes of what comes of bytes are others")
	}
}
