package log_test

import (
	"bytes"
	"math"
	"math/rand"
	"slices"
	"sync"
	"testing"

	"drydock/api"
	"drydock/dev"
	"drydock/log"
)

// use makes every call of a log, with data and a number.
func use(l *log.Log, data []byte, seq int) {
	l.Append(data)
	l.Trim(seq)
	l.At()
	l.Next()
	l.Free()
	l.Flush()
	l.Append(data)
}

// P6: every call ends and none panics, whatever it is given, and whatever the device is in.
func TestTotal(t *testing.T) {
	numbers := []int{math.MinInt, -1, 0, 1, 2, 3, 9, 10, api.MaxSectors, api.MaxSectors + 1, lastNumber, lastNumber + 1, math.MaxInt - 1, math.MaxInt}
	texts := [][]byte{nil, {}, {1}, make([]byte, 300), make([]byte, mostData+1)}
	for _, first := range numbers {
		for _, sectors := range numbers {
			a := log.Area{First: first, Sectors: sectors}
			for i, at := range numbers {
				for _, seq := range numbers {
					log.Need(at, seq)
					use(nil, texts[i%len(texts)], seq)
					for _, state := range states {
						d := device(t, 9)
						state.do(d)
						l, _, _ := log.Open(d, a, at, seq)
						use(l, texts[i%len(texts)], at)
						use(l, texts[(i+seq&1)%len(texts)], seq)
						state.do(d)
						use(l, texts[i%len(texts)], seq)
					}
				}
			}
		}
	}
}

// P6: a log that no call answered does nothing, and none of its calls panics.
func TestZeroLog(t *testing.T) {
	var l log.Log
	for _, seq := range edges {
		use(&l, []byte("a"), seq)
		use(&l, nil, 0)
	}
}

// anySectors are sectors of a log of few of them: whole records, torn ones, other ones, and bytes of no meaning.
func anySectors(rnd *rand.Rand, sectors, seq int) []api.Block {
	all := make([]api.Block, 0, sectors)
	for len(all) < sectors {
		r := record(seq, rnd.Intn(room*3))
		blocks := laid(r)
		switch rnd.Intn(8) {
		case 0:
			blocks[rnd.Intn(len(blocks))][rnd.Intn(14)] ^= byte(1 << rnd.Intn(8))
		case 1:
			blocks = blocks[:rnd.Intn(len(blocks))]
		case 2:
			b := make([]byte, rnd.Intn(room))
			for i := range b {
				b[i] = byte(rnd.Intn(256) >> rnd.Intn(9))
			}
			blocks = []api.Block{tagged(uint64(seq), b), tagged(uint64(seq), sealed(b[:min(len(b), room-4)]))}
		}
		all = append(all, blocks...)
		seq += []int{1, 1, 1, 1, 1, 1, 0, 2}[rnd.Intn(8)]
	}
	return all[:sectors]
}

// P6, LO1: of whatever stands in an area Open reads just the records that lie there whole, and wipes the others, as the words say.
func TestAnySectors(t *testing.T) {
	rnd := rand.New(rand.NewSource(1))
	records := 0
	for range 20000 {
		a := log.Area{Sectors: 2 + rnd.Intn(9)}
		at, seq := rnd.Intn(a.Sectors), []int{1, 126, 300, lastNumber - 2}[rnd.Intn(4)]
		sectors := anySectors(rnd, a.Sectors, seq)
		p := newPair(t, slices.Concat(sectors[a.Sectors-at:], sectors[:a.Sectors-at]), a, at, seq)
		records += len(p.m.records)
		p.append(letters(1, rnd.Intn(100)))
		p.trim(seq + rnd.Intn(3))
	}
	if records < 10000 {
		t.Errorf("only %d records are read", records)
	}
}

// fill writes over bytes and the spare room behind them.
func fill(b []byte) {
	b = b[:cap(b)]
	for i := range b {
		b[i] ^= 0xff
	}
}

// P6: data that was handed in is neither changed, nor the spare room behind it, nor kept; so it is where an error is answered.
func TestDataAlone(t *testing.T) {
	for _, n := range []int{0, 1, 50, 51, 100, 128, 300} {
		d := device(t, 20)
		a := log.Area{Sectors: 20}
		l := opened(t, d, a, 15, 1, 0)
		b := append(make([]byte, 0, mostData+100), letters(1, n)...)
		spare := b[:cap(b)]
		before := bytes.Clone(spare)
		appended(t, l, b, 1)
		wantNoAppend(t, l, b[:mostData+1], api.ErrLong)
		wantNoAppend(t, l, b[:20*room], api.ErrFull)
		if !bytes.Equal(spare, before) {
			t.Fatal("Append changed its argument")
		}
		fill(b)
		must(t, l.Flush())
		d.Start(nil)
		wantRead(t, d, a, 15, 1, record(1, n))
		fill(b)
		if crash(t, d); !bytes.Equal(spare, before) {
			t.Fatal("what was handed in is kept")
		}
		wantNoAppend(t, l, b, api.ErrDown)
		if !bytes.Equal(spare, before) {
			t.Fatal("Append changed its argument")
		}
	}
}

// P6: what was handed out may be changed without changing what the log or the device has, or another record.
func TestAnswersAlone(t *testing.T) {
	a := log.Area{First: 3, Sectors: 9}
	want := []log.Record{record(1, 100), record(2, 0), record(3, 60), record(4, 10)}
	d := disk(t, put(14, a, 5, laid(want...)...))
	l, one, err := log.Open(d, a, 5, 1)
	must(t, err)
	_, two, err := log.Open(d, a, 5, 1)
	must(t, err)
	for i := range one {
		fill(one[i].Data)
		_ = append(one[i].Data, "behind"...)
		for j := range one {
			if j > i && !same(one[j], want[j]) {
				t.Fatalf("record %d shares memory with record %d: %v", i+1, j+1, one[j])
			}
		}
		one[i] = log.Record{}
	}
	_ = append(one[:0], record(9, 9))
	wantRecords(t, two, want)
	wantLog(t, l, 5, 1, 5, 3)
	wantRead(t, d, a, 5, 1, want...)
	must(t, l.Trim(3))
	appended(t, l, letters(5, 10), 5)
	wantLog(t, l, 8, 3, 6, 5)
	wantRead(t, d, a, 8, 3, want[2], want[3], record(5, 10))
}

// P6: two logs in two areas of one device, or on two devices, have nothing in common, but that a device is flushed as a whole, and goes down so.
func TestLogsAlone(t *testing.T) {
	d, e := device(t, 12), device(t, 12)
	first, second := log.Area{First: 0, Sectors: 6}, log.Area{First: 6, Sectors: 6}
	one, two, three := opened(t, d, first, 0, 1, 0), opened(t, d, second, 5, 40, 0), opened(t, e, first, 0, 1, 0)
	appended(t, one, letters(1, 100), 1)
	appended(t, two, letters(2, 100), 40)
	appended(t, three, letters(3, 3), 1)
	must(t, two.Trim(41))
	wantLog(t, one, 0, 1, 2, 4)
	wantLog(t, two, 1, 41, 41, 6)
	wantLog(t, three, 0, 1, 2, 5)
	must(t, one.Flush())
	if len(d.Loose()) > 0 || len(e.Loose()) != 1 {
		t.Errorf("%v and %v are loose", d.Loose(), e.Loose())
	}
	crash(t, d)
	wantNoAppend(t, one, nil, api.ErrDown)
	appended(t, three, letters(4, 3), 2)
	d.Start(nil)
	wantNoAppend(t, one, nil, api.ErrDown)
	appended(t, two, letters(5, 3), 41) // it has asked nothing of the device while that was down
	one = wantRead(t, d, first, 0, 1, record(1, 100))
	wantLog(t, one, 0, 1, 2, 4)
	wantLog(t, two, 1, 41, 42, 5)
	wantRead(t, d, second, 1, 41, log.Record{Seq: 41, Data: letters(5, 3)})
	wantRead(t, e, first, 0, 1, log.Record{Seq: 1, Data: letters(3, 3)}, log.Record{Seq: 2, Data: letters(4, 3)})
}

// P6: the same done again, or asked again, is the same, whatever is done with other logs between.
func TestSameAgain(t *testing.T) {
	for seed := range int64(50) {
		rnd, again := rand.New(rand.NewSource(seed)), rand.New(rand.NewSource(seed))
		other := rand.New(rand.NewSource(-1 - seed))
		a := log.Area{First: 1, Sectors: 2 + int(seed)%9}
		one, two := newPair(t, make([]api.Block, 12), a, 1, 5), newPair(t, make([]api.Block, 12), a, 1, 5)
		for range 50 {
			b, n := anyData(rnd, 200), rnd.Intn(3)
			one.append(b)
			one.trim(one.m.seq + n)
			p := newPair(t, make([]api.Block, 12), a, 1, 5)
			p.append(anyData(other, 200))
			b, n = anyData(again, 200), again.Intn(3)
			two.append(b)
			two.trim(two.m.seq + n)
			one.check()
			two.check()
			log.Need(len(b), n)
		}
		if !slices.Equal(image(t, one.d), image(t, two.d)) {
			t.Fatalf("seed %d: the devices are unlike", seed)
		}
	}
}

// P6: logs that are used at the same time have nothing to do with one another.
func TestAtTheSameTime(t *testing.T) {
	var all sync.WaitGroup
	for i := range 8 {
		all.Add(1)
		go func() {
			defer all.Done()
			d, err := dev.New(20)
			if err != nil {
				t.Error(err)
				return
			}
			a := log.Area{First: i, Sectors: 12}
			for seq := 1; seq < 200; seq++ {
				l, old, err := log.Open(d, a, seq%12, seq)
				if err != nil || len(old) != 0 {
					t.Errorf("Open: %v, %v", old, err)
					return
				}
				r := record(seq, 10+i*seq%400)
				if got, err := l.Append(r.Data); got != seq || err != nil {
					t.Errorf("Append: %d, %v, want %d", got, err, seq)
				}
				if _, now, err := log.Open(d, a, seq%12, seq); err != nil || len(now) != 1 || !same(now[0], r) {
					t.Errorf("Open: %v, %v, want %v", now, err, r)
				}
			}
		}()
	}
	all.Wait()
}
