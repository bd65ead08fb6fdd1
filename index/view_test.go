package index_test

import (
	"math/rand"
	"testing"

	"drydock/index"
)

// IX3: a view has what the index had, whatever is put, dropped, flushed and merged later.
func TestView(t *testing.T) {
	p := newPair(t, index.Config{Mem: 3, Fan: 1, Part: 2, Bits: 8})
	p.view()
	p.lay(value("a", "x"), value("b", "x"))
	p.view()
	p.check("c")
	p.lay(value("a", "y"), gone("b"), value("c", "y"))
	p.view()
	p.check("d")
	wantOnly(t, p.views[0])
	wantOnly(t, p.views[1], value("a", "x"), value("b", "x"))
	wantOnly(t, p.views[2], value("a", "y"), value("c", "y"))
	p.flush()
	p.check("d")
	p.lay(gone("a"), value("d", "z"))
	p.view()
	p.flush()
	p.check()
	p.merge()
	p.view()
	p.check()
	p.layTable(value("a", "again"))
	p.layTable(gone("c"))
	p.merge()
	p.check("b")
	wantOnly(t, p.views[0])
	wantOnly(t, p.views[1], value("a", "x"), value("b", "x"))
	wantOnly(t, p.views[2], value("a", "y"), value("c", "y"))
	wantOnly(t, p.views[3], value("c", "y"), value("d", "z"))
	wantOnly(t, p.views[4], value("c", "y"), value("d", "z"))
	wantOnly(t, p.x, value("a", "again"), value("d", "z"))
}

// IX3: Range of a view has its ends as that of an index.
func TestViewRange(t *testing.T) {
	p := pairOf(t, deep())
	p.view()
	keys := []string{"", "a", "a\x00", "b", "c", "d", "e", "f", "g", "h", "i", "i\x00", "\xff"}
	has := p.m.has()
	for _, key := range keys {
		wantErr(t, "Put", p.x.Put(key, "later"), 0)
	}
	for _, from := range keys {
		for _, to := range keys {
			wantList(t, "Range from "+from+" to "+to, p.views[0].Range(from, to), between(has, from, to))
		}
	}
	wantHas(t, p.views[0], has, keys...)
}

// IX3: a view that is released has nothing, for good; more than once is nothing, to others neither.
func TestRelease(t *testing.T) {
	p := five(t)
	p.lay(value("z", "x"))
	for range 3 {
		p.view()
	}
	p.merge()
	wantHeld(t, p.x, 3)
	for i := range p.views {
		for range 3 {
			p.release(i)
			wantNo(t, p.views[i], "a", "b", "z", "")
			wantOnly(t, p.views[i])
			p.check("a", "z")
		}
		if i < 2 {
			wantHeld(t, p.x, 3)
			wantOnly(t, p.views[2], value("a", "new"), value("b", "x"), value("c", "x"), value("d", "x"), value("e", "x"), value("z", "x"))
		}
	}
	wantHeld(t, p.x, 1)
	wantOnly(t, p.x, value("a", "new"), value("b", "x"), value("c", "x"), value("d", "x"), value("e", "x"), value("z", "x"))
}

// IX3: Held is the tables of all levels, of those that a view holds each but once.
func TestHeld(t *testing.T) {
	p := newPair(t, index.Config{Mem: 9, Fan: 1, Part: 2, Bits: 8})
	want := func(n int) {
		t.Helper()
		wantHeld(t, p.x, n)
		p.check()
	}
	p.lay(value("a", "x"))
	p.view() // without a table
	want(0)
	p.flush()
	want(1)
	p.view()
	want(1)
	p.layTable(value("b", "x"))
	want(2)
	p.view()
	p.view()
	want(2)
	p.compact()
	want(2)
	p.step(1)
	want(2)
	p.layTable(value("c", "x"))
	want(3)
	p.view() // of three tables, two of them inputs
	p.step(5)
	want(4)
	p.release(0)
	want(4)
	p.release(1)
	want(4)
	p.release(4)
	want(4)
	p.release(2)
	want(4)
	p.release(2)
	want(4)
	p.release(3)
	want(2)
	p.view() // of one table each level
	p.layTable(value("d", "x"))
	want(3)
	p.merge()
	want(3)
	p.release(5)
	want(1)
}

// IX3: without a view the inputs are let go when the job is done, and not ahead of that; with one, when it is released.
func TestHeldOfJob(t *testing.T) {
	for _, when := range []string{"never", "ahead", "during", "behind"} {
		m := modelOf(some)
		m.levels = [][]*sheet{each("abc"), each("de"), each("f")}
		p := pairOf(t, m)
		wantHeld(t, p.x, 6)
		if when == "ahead" {
			p.view()
		}
		p.compact()
		p.step(2)
		wantHeld(t, p.x, 6)
		if when == "during" {
			p.view()
		}
		p.step(3)
		wantHeld(t, p.x, 6)
		p.step(1)
		switch when {
		case "behind":
			p.view()
			fallthrough
		case "never":
			wantHeld(t, p.x, 2)
			p.check()
			continue
		}
		wantHeld(t, p.x, 7)
		wantKeys(t, p.views[0], "abcdef")
		p.check()
		p.release(0)
		wantHeld(t, p.x, 2)
		p.check()
	}
}

// IX3: a view that was taken and released while a job runs takes nothing from it, nor from the index.
func TestReleaseWhileRuns(t *testing.T) {
	p := five(t)
	p.view()
	p.compact()
	p.view()
	p.release(0)
	p.release(1)
	wantHeld(t, p.x, 2)
	p.check()
	for !p.step(1) {
		p.check()
	}
	wantHeld(t, p.x, 1)
	p.check()
}

// IX3: inputs of which nothing is made are held as others are.
func TestHeldOfNothingMade(t *testing.T) {
	p := newPair(t, some)
	p.layTable(gone("a"))
	p.layTable(gone("b"))
	p.view()
	p.merge()
	wantHeld(t, p.x, 2)
	wantOnly(t, p.views[0])
	p.release(0)
	wantHeld(t, p.x, 0)
	p.check("a", "b")
}

// IX3: a view of one index is none of another one, its copy neither; what comes of bytes is held by none.
func TestViewsApart(t *testing.T) {
	p := five(t)
	p.view()
	other := decoded(t, encoded(t, p.x))
	v := other.View()
	wantStep(t, jobOf(t, other), 9, true)
	wantHeld(t, other, 3)
	wantHeld(t, p.x, 2)
	p.merge()
	wantHeld(t, p.x, 3)
	p.release(0)
	wantHeld(t, p.x, 1)
	wantHeld(t, other, 3)
	wantHeld(t, decoded(t, encoded(t, other)), 1)
	wantKeys(t, v, "abcde")
	v.Release()
	wantHeld(t, other, 1)
	p.check()
}

// IX3: of no view there is nothing, and it can be released.
func TestNilView(t *testing.T) {
	var v *index.View
	wantNo(t, v, "", "a")
	wantOnly(t, v)
	v.Release()
	v.Release()
}

// IX3: any views, taken and released whenever.
func TestAnyViews(t *testing.T) {
	rnd := rand.New(rand.NewSource(20))
	for range 60 {
		p := pairOf(t, anyModel(rnd))
		for range 40 {
			switch rnd.Intn(6) {
			case 0, 1:
				p.view()
			case 2, 3:
				if n := len(p.views); n > 0 {
					p.release(rnd.Intn(n))
				}
			case 4:
				p.layTable(anyEntry(rnd), anyEntry(rnd))
			default:
				p.work(rnd)
			}
			wantHeld(t, p.x, p.m.held())
		}
		p.check()
		for i := range p.views {
			p.release(i)
		}
		total := 0
		for _, n := range p.x.Levels() {
			total += n
		}
		wantHeld(t, p.x, total)
	}
}
