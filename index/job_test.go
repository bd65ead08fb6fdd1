package index_test

import (
	"math"
	"slices"
	"strings"
	"testing"

	"drydock/api"
	"drydock/index"
)

// each is a table for each letter.
func each(letters string) []*sheet {
	var l []*sheet
	for _, c := range []byte(letters) {
		l = append(l, sheetOf(2, 8, value(string([]byte{c}), "x")))
	}
	return l
}

// wantKeys checks which keys are there.
func wantKeys(t *testing.T, x asked, want string) {
	t.Helper()
	got := ""
	for _, e := range x.Range("", "") {
		got += e.Key
	}
	if got != want {
		t.Fatalf("Range: %q, want %q", got, want)
	}
}

// IX2: there is no job while no level has more than Fan tables, with just Fan neither, and one with one more.
func TestCompactFan(t *testing.T) {
	for _, fan := range []int{1, 2, 3, 15, 16} {
		p := newPair(t, index.Config{Mem: 1, Fan: fan, Part: 2, Bits: 8})
		for i := range fan {
			wantNoJob(t, p.x, api.ErrNone)
			p.layTable(value(numbered(i), "x"))
			p.compact()
		}
		wantLevels(t, p.x, fan)
		p.check()
		p.lay(value(numbered(fan), "x"))
		wantNoJob(t, p.x, api.ErrNone)
		p.flush()
		wantLevels(t, p.x, fan+1)
		p.merge()
		wantLevels(t, p.x, 0, 1)
		p.check()
		p.compact()
	}
}

// IX2: the job is for the first level that has more than Fan tables, wherever that is, and takes in the next one whole; other levels stay.
func TestCompactLevel(t *testing.T) {
	cases := []struct {
		levels []string
		want   []int
	}{
		{[]string{"ab"}, []int{0, 1}},
		{[]string{"abc", "d"}, []int{0, 1}},
		{[]string{"ab", "cd"}, []int{0, 1}},
		{[]string{"a", "bc"}, []int{1, 0, 1}},
		{[]string{"", "ab"}, []int{0, 0, 1}},
		{[]string{"", "ab", "c"}, []int{0, 0, 1}},
		{[]string{"ab", "", "c"}, []int{0, 1, 1}},
		{[]string{"ab", "cde", "fg"}, []int{0, 1, 2}},
		{[]string{"a", "bcd", "efg", "hi"}, []int{1, 0, 1, 2}},
		{[]string{"a", "b", "c", "de"}, []int{1, 1, 1, 0, 1}},
		{[]string{"a", "", "", "bc", "", "d"}, []int{1, 0, 0, 0, 1, 1}},
	}
	for _, c := range cases {
		m := modelOf(some)
		for _, letters := range c.levels {
			m.levels = append(m.levels, each(letters))
		}
		p := pairOf(t, m)
		p.check()
		p.compact()
		p.check()
		p.step(100)
		wantLevels(t, p.x, c.want...)
		p.check()
	}
}

// IX2: there are no two jobs at a time, whether there would be one more to do or none; behind the end of one there may be another one.
func TestCompactWhileRuns(t *testing.T) {
	p := pairOf(t, &model{c: some, levels: [][]*sheet{each("ab"), nil, each("cd")}})
	j := jobOf(t, p.x)
	wantNoJob(t, p.x, api.ErrLock)
	wantStep(t, j, 1, false)
	wantNoJob(t, p.x, api.ErrLock)
	wantErr(t, "Put", p.x.Put("y", ""), 0)
	wantErr(t, "Flush", p.x.Flush(), 0)
	wantErr(t, "Put", p.x.Put("z", ""), 0)
	wantErr(t, "Flush", p.x.Flush(), 0)
	wantNoJob(t, p.x, api.ErrLock)
	wantNoStep(t, j, 0, api.ErrArg)
	wantStep(t, j, 1, false)
	wantNoJob(t, p.x, api.ErrLock)
	wantStep(t, j, 1, true)
	wantLevels(t, p.x, 2, 1, 2)
	j = jobOf(t, p.x)
	wantNoJob(t, p.x, api.ErrLock)
	wantStep(t, j, 9, true)
	wantLevels(t, p.x, 0, 1, 2)
	wantStep(t, jobOf(t, p.x), 9, true)
	wantLevels(t, p.x, 0, 1, 0, 1)
	wantNoJob(t, p.x, api.ErrNone)

	// a job runs, and no level has more than Fan tables: it comes first that a job runs
	p = newPair(t, some)
	p.layTable(value("a", ""))
	p.layTable(value("b", ""))
	j = jobOf(t, p.x)
	wantNoJob(t, p.x, api.ErrLock)
	wantStep(t, j, 3, true)
	wantNoJob(t, p.x, api.ErrNone)
}

// five are two tables of five keys together.
func five(t *testing.T) *pair {
	p := newPair(t, index.Config{Mem: 5, Fan: 1, Part: 2, Bits: 8})
	p.layTable(value("a", "old"), value("b", "x"), value("d", "x"))
	p.layTable(value("a", "new"), value("c", "x"), value("e", "x"))
	return p
}

// IX2: it is done as soon as one more is looked for, and there is none: not by the step that takes the last entry.
func TestStep(t *testing.T) {
	cases := []struct {
		steps []int
		done  bool
	}{
		{[]int{1, 1, 1, 1, 1}, false},
		{[]int{1, 1, 1, 1, 1, 1}, true},
		{[]int{4}, false},
		{[]int{5}, false},
		{[]int{6}, true},
		{[]int{5, 1}, true},
		{[]int{4, 1}, false},
		{[]int{4, 2}, true},
		{[]int{2, 3, 1}, true},
		{[]int{3, 3}, true},
		{[]int{5, math.MaxInt}, true},
		{[]int{math.MaxInt}, true},
		{[]int{1, math.MaxInt}, true},
	}
	for _, c := range cases {
		p := five(t)
		j := jobOf(t, p.x)
		left := 5
		for i, n := range c.steps {
			wantLevels(t, p.x, 2)
			wantStep(t, j, n, c.done && i == len(c.steps)-1)
			left -= n
		}
		if !c.done {
			wantLevels(t, p.x, 2)
			wantStep(t, j, left+1, true)
		}
		wantLevels(t, p.x, 0, 1)
		wantOnly(t, p.x, value("a", "new"), value("b", "x"), value("c", "x"), value("d", "x"), value("e", "x"))
		for _, n := range []int{1, 2, math.MaxInt} {
			wantStep(t, j, n, true)
		}
		wantLevels(t, p.x, 0, 1)
		p.follow()
		p.check()
	}
}

// IX2: a step below 1, and of no job, is ErrArg, ahead of the end and behind it, and takes nothing.
func TestStepArg(t *testing.T) {
	p := five(t)
	j := jobOf(t, p.x)
	for range 2 {
		for _, n := range []int{0, -1, math.MinInt} {
			wantNoStep(t, j, n, api.ErrArg)
			wantNoStep(t, nil, n, api.ErrArg)
		}
		wantNoStep(t, nil, 1, api.ErrArg)
	}
	wantStep(t, j, 5, false)
	wantNoStep(t, j, 0, api.ErrArg)
	wantLevels(t, p.x, 2)
	wantStep(t, j, 1, true)
	wantNoStep(t, j, 0, api.ErrArg)
	wantNoStep(t, j, -7, api.ErrArg)
	wantStep(t, j, 1, true)
	p.follow()
	p.check()
}

// IX2: entries that are gone are left out where no level behind the next one has a table; a step takes so many of the others.
func TestGoneLeftOut(t *testing.T) {
	for _, next := range [][]*sheet{nil, {sheetOf(2, 8, value("a", "3"), value("d", "3"), gone("f"))}} {
		m := modelOf(some)
		m.levels = [][]*sheet{{sheetOf(2, 8, gone("a"), gone("b"), value("c", "1")), sheetOf(2, 8, value("b", "2"), gone("c"), gone("d"), value("e", "2"))}, next}
		p := pairOf(t, m)
		j := jobOf(t, p.x)
		wantStep(t, j, 1, false) // c: a and b are left out ahead of it
		wantStep(t, j, 1, false) // e
		wantLevels(t, p.x, p.m.counts()...)
		wantStep(t, j, 1, true)
		wantLevels(t, p.x, 0, 1)
		p.follow()
		p.check("a", "b", "d", "f")
		wantList(t, "what was made", p.m.levels[1][0].entries, []api.Entry{value("c", "1"), value("e", "2")})
	}
}

// IX2: entries that are gone are kept, and counted, where a level behind the next one has a table, however far behind, as it may have the key.
func TestGoneKept(t *testing.T) {
	old := sheetOf(2, 8, value("a", "old"), value("d", "old"))
	older := sheetOf(2, 8, value("a", "older"))
	for _, behind := range [][][]*sheet{{{old}}, {nil, {old}}, {nil, nil, nil, {old, older}}} {
		m := modelOf(some)
		m.levels = slices.Concat([][]*sheet{{sheetOf(2, 8, gone("a"), value("c", "1")), sheetOf(2, 8, value("b", "2"), gone("c"))}, {sheetOf(2, 8, gone("d"), gone("x"))}}, behind)
		p := pairOf(t, m)
		j := jobOf(t, p.x)
		wantStep(t, j, 5, false)
		wantStep(t, j, 1, true)
		p.follow()
		p.check("a", "d", "x")
		wantOnly(t, p.x, value("b", "2"), value("c", "1"))
		wantList(t, "what was made", p.m.levels[1][0].entries, []api.Entry{gone("a"), value("b", "2"), value("c", "1"), gone("d"), gone("x")})
	}
	// the next level itself is no such level
	m := modelOf(some)
	m.levels = [][]*sheet{nil, {sheetOf(2, 8, gone("a")), sheetOf(2, 8, value("b", "2"))}, {old}}
	p := pairOf(t, m)
	p.merge()
	p.check("a")
	wantLevels(t, p.x, 0, 0, 1)
	wantList(t, "what was made", p.m.levels[2][0].entries, []api.Entry{value("b", "2"), value("d", "old")})
}

// IX2: a job that takes nothing is done by its first step, and makes no table.
func TestTakesNothing(t *testing.T) {
	for _, n := range []int{1, 2, 100} {
		p := newPair(t, index.Config{Mem: 3, Fan: 2, Part: 2, Bits: 8})
		p.layTable(gone("a"), gone("b"))
		p.layTable(gone("b"))
		p.layTable(gone("c"), gone("d"))
		p.compact()
		p.check("a")
		if !p.step(n) {
			t.Fatal("not done")
		}
		wantLevels(t, p.x)
		wantHeld(t, p.x, 0)
		p.check("a")
		wantBytes(t, p.x, encoded(t, fresh(t, p.m.c)))
		p.layTable(value("a", "x"))
		wantLevels(t, p.x, 1)
		p.check()
	}
	// what is behind the level stays, and what is ahead of it too
	m := modelOf(some)
	m.levels = [][]*sheet{each("z"), {sheetOf(2, 8, gone("a")), sheetOf(2, 8, value("a", ""))}}
	p := pairOf(t, m)
	p.merge()
	wantLevels(t, p.x, 1)
	p.check("a")
	// what comes to level 0 meanwhile, too
	p = newPair(t, some)
	p.layTable(gone("a"))
	p.layTable(gone("b"))
	p.compact()
	p.layTable(value("a", "x"))
	p.step(1)
	wantLevels(t, p.x, 1)
	p.check("b")
}

// IX2: what came to level 0 while the job ran stays there, newer than what was made; it is no input.
func TestMeanwhile(t *testing.T) {
	for _, when := range []int{0, 1, 4, 5} {
		p := five(t)
		p.compact()
		for range when {
			p.step(1)
		}
		p.layTable(value("a", "newer"), gone("b"), value("f", "x"))
		wantLevels(t, p.x, 3)
		p.check("b")
		p.lay(value("c", "newer"), gone("f"))
		p.layTable(gone("e"))
		wantLevels(t, p.x, 5)
		p.check("b", "e", "f")
		for !p.step(1) {
			wantLevels(t, p.x, 5)
		}
		wantLevels(t, p.x, 3, 1)
		p.check("b", "e", "f")
		wantOnly(t, p.x, value("a", "newer"), value("c", "newer"), value("d", "x"))
		wantList(t, "what was made", p.m.levels[1][0].entries, []api.Entry{value("a", "new"), value("b", "x"), value("c", "x"), value("d", "x"), value("e", "x")})
		p.merge()
		p.check("b", "e", "f")
		wantLevels(t, p.x, 0, 1)
		wantOnly(t, p.x, value("a", "newer"), value("c", "newer"), value("d", "x"))
	}
}

// IX2: between two steps all is as it was, whatever is asked, and whatever is asked changes nothing of the job.
func TestBetweenSteps(t *testing.T) {
	p := five(t)
	p.lay(value("b", "ahead"), gone("d"))
	before := encoded(t, p.x)
	p.compact()
	for done := false; !done; done = p.step(1) {
		wantOnly(t, p.x, value("a", "new"), value("b", "ahead"), value("c", "x"), value("e", "x"))
		wantLevels(t, p.x, 2)
		wantHeld(t, p.x, 2)
		v := p.x.View()
		wantKeys(t, v, "abce")
		v.Release()
		wantBytes(t, p.x, before)
		other := decoded(t, encoded(t, p.x)) // in which no job runs
		wantStep(t, jobOf(t, other), 9, true)
		wantLevels(t, other, 0, 1)
		p.check("d")
	}
	wantOnly(t, p.x, value("a", "new"), value("b", "ahead"), value("c", "x"), value("e", "x"))
	wantLevels(t, p.x, 0, 1)
	p.check("d")
}

// IX2: of one key the newest table of the inputs counts, each place of it tried among five tables of two levels.
func TestNewestOfInputs(t *testing.T) {
	for newest := range 5 {
		m := modelOf(some)
		m.levels = [][]*sheet{nil, nil}
		for i := range 5 {
			s := sheetOf(2, 8, value("b", "x"))
			if i >= newest {
				s = sheetOf(2, 8, value("a", string([]byte{byte('0' + i)})), value("b", "x"))
			}
			m.levels[i/3] = append(m.levels[i/3], s)
		}
		p := pairOf(t, m)
		want := []api.Entry{value("a", string([]byte{byte('0' + newest)})), value("b", "x")}
		wantOnly(t, p.x, want...)
		p.merge()
		wantOnly(t, p.x, want...)
		p.check()
	}
}

// IX2: what was made is Build's of Part and Bits, whatever the inputs had.
func TestMadeOfPartAndBits(t *testing.T) {
	for _, part := range []int{1, 2, 3, 1000} {
		for _, bits := range []int{1, 7, 64} {
			m := modelOf(index.Config{Mem: 3, Fan: 1, Part: part, Bits: bits})
			m.levels = [][]*sheet{{sheetOf(1, 5, value("a", "x"), value("b", "x")), sheetOf(7, 11, value("c", "x"), value("d", "x"))}}
			p := pairOf(t, m)
			p.check()
			p.merge()
			p.check()
			wantBytes(t, p.x, (&model{c: m.c, levels: [][]*sheet{nil, {sheetOf(part, bits, value("a", "x"), value("b", "x"), value("c", "x"), value("d", "x"))}}}).bytes())
		}
	}
}

// filled has so many tables of so many entries each, no two of one key.
func filled(t *testing.T, c index.Config, tables, entries, size int) *index.Index {
	t.Helper()
	x := fresh(t, c)
	for i := range tables {
		for n := range entries {
			wantErr(t, "Put", x.Put(numbered(n*tables+i), strings.Repeat("v", size)), 0)
		}
		wantErr(t, "Flush", x.Flush(), 0)
	}
	wantLevels(t, x, tables)
	return x
}

// wantTooMuch checks a job whose table would be too much, in steps of so many: it is done, and all is as it was.
func wantTooMuch(t *testing.T, x *index.Index, n int) {
	t.Helper()
	before, levels, held := encodedOrNot(x), x.Levels(), x.Held()
	for range 2 { // there may be another one behind it
		j := jobOf(t, x)
		done, err := j.Step(n)
		for !done && err == nil {
			done, err = j.Step(n)
		}
		if done {
			t.Fatalf("done, beside %v", err)
		}
		wantErr(t, "Step", err, api.ErrLong)
		wantStep(t, j, 1, true)
		wantStep(t, j, 1, true)
		wantNoStep(t, j, 0, api.ErrArg)
		wantLevels(t, x, levels...)
		wantHeld(t, x, held)
		if !slices.Equal(encodedOrNot(x), before) {
			t.Fatal("the index has changed")
		}
	}
}

// encodedOrNot are the bytes of an index, or none, where these would be too many.
func encodedOrNot(x *index.Index) []byte {
	b, _ := x.Encode()
	return b
}

// IX2: Build's error, of too many entries, is told by the step that looks for one more.
func TestTooManyEntries(t *testing.T) {
	c := index.Config{Mem: 1000, Fan: 16, Part: 100, Bits: 2}
	x := filled(t, c, 17, 1000, 0)
	wantTooMuch(t, x, 5000)
	v, want := x.View(), x.Range("", "")
	if len(want) != 17000 {
		t.Fatalf("Range: %d", len(want))
	}
	// what is put goes on, and jobs that make less, too
	for n := range 700 {
		wantErr(t, "Drop", x.Drop(numbered(n)), 0)
	}
	wantErr(t, "Flush", x.Flush(), 0)
	wantStep(t, jobOf(t, x), 16301, true)
	wantLevels(t, x, 0, 1)
	wantList(t, "Range", x.Range("", ""), want[700:])
	wantList(t, "Range", v.Range("", ""), want)
}

// IX2: just 2^14 entries are not too many, with the most bits too, and one more is.
func TestMostEntries(t *testing.T) {
	c := index.Config{Mem: 1000, Fan: 16, Part: 1000, Bits: 64}
	for _, more := range []int{0, 1} {
		x := filled(t, c, 16, 1000, 0)
		for n := range 384 + more {
			wantErr(t, "Put", x.Put(numbered(20000+n), ""), 0)
		}
		wantErr(t, "Flush", x.Flush(), 0)
		if more > 0 {
			wantTooMuch(t, x, math.MaxInt)
			continue
		}
		wantStep(t, jobOf(t, x), mostTable, false)
		wantNoJob(t, x, api.ErrLock)
		other := filled(t, c, 16, 1000, 0)
		for n := range 384 {
			wantErr(t, "Put", other.Put(numbered(20000+n), ""), 0)
		}
		wantErr(t, "Flush", other.Flush(), 0)
		wantStep(t, jobOf(t, other), mostTable+1, true)
		wantLevels(t, other, 0, 1)
		if n := len(other.Range("", "")); n != mostTable {
			t.Fatalf("Range: %d", n)
		}
	}
}

// IX2: so it is of too many bytes.
func TestTooManyBytes(t *testing.T) {
	c := index.Config{Mem: 1000, Fan: 1, Part: 100, Bits: 2}
	x := filled(t, c, 3, 700, 508)
	wantTooMuch(t, x, 700)
	for n := range 200 {
		wantErr(t, "Drop", x.Drop(numbered(n)), 0)
	}
	wantErr(t, "Flush", x.Flush(), 0)
	wantStep(t, jobOf(t, x), math.MaxInt, true)
	wantLevels(t, x, 0, 1)
	if n := len(x.Range("", "")); n != 1900 {
		t.Fatalf("Range: %d", n)
	}
}

// IX2: no job takes part in another index' one.
func TestJobsApart(t *testing.T) {
	a, b := five(t), five(t)
	a.compact()
	b.layTable(value("z", ""))
	b.compact()
	for range 4 {
		a.step(1)
		b.step(1)
	}
	a.step(2)
	a.check()
	b.check()
	wantNoJob(t, b.x, api.ErrLock)
	b.step(9)
	a.check()
	b.check()
}

// IX2: a job of the deepest level makes a level behind it, also behind the 32 that bytes may tell.
func TestDeepest(t *testing.T) {
	m := modelOf(some)
	m.levels = append(make([][]*sheet, 31), each("abc"))
	p := pairOf(t, m)
	p.merge()
	if l := p.x.Levels(); len(l) != 33 || l[31] != 0 || l[32] != 1 {
		t.Fatalf("Levels: %v", l)
	}
	p.check()
	wantKeys(t, p.x, "abc")
}
