package log_test

import (
	"math/rand"
	"slices"
	"testing"

	"drydock/api"
	"drydock/dev"
	"drydock/log"
)

// kinds are which of so many sectors are kept: all that there are.
func kinds(loose int) [][]bool {
	var all [][]bool
	for bits := range 1 << loose {
		kept := make([]bool, loose)
		for i := range kept {
			kept[i] = bits>>i&1 != 0
		}
		all = append(all, kept)
	}
	return all
}

// lying is how many of the records have all their sectors on a device, up to the first that has not.
func lying(t *testing.T, d *dev.Dev, a log.Area, at int, records []log.Record) int {
	t.Helper()
	all, i := image(t, d), 0
	for n, r := range records {
		for _, block := range laid(r) {
			if all[a.First+(at+i)%a.Sectors] != block {
				return n
			}
			i++
		}
	}
	return len(records)
}

// wantBegin opens a log behind a start of the device, and checks that of those records it reads all that lie there whole, so many at least, and that it reads the same again.
func wantBegin(t *testing.T, d *dev.Dev, a log.Area, at, seq int, records []log.Record, flushed int) (*log.Log, []log.Record) {
	t.Helper()
	n := lying(t, d, a, at, records)
	if n < flushed {
		t.Fatalf("%d of %d flushed records are there", n, flushed)
	}
	wantRead(t, d, a, at, seq, records[:n]...)
	d.Start(nil)
	return wantRead(t, d, a, at, seq, records[:n]...), records[:n:n]
}

// wantGoesOn appends one more, flushes, and checks what is read of it all behind a start.
func wantGoesOn(t *testing.T, d *dev.Dev, a log.Area, l *log.Log, records []log.Record) {
	t.Helper()
	at, seq := l.At()
	r := record(l.Next(), 20)
	appended(t, l, r.Data, r.Seq)
	must(t, l.Flush())
	d.Start(nil)
	wantRead(t, d, a, at, seq, append(records[:len(records):len(records)], r)...)
}

// past is a log that has gone round its area, of 9 sectors from the third on, so that older records' sectors are everywhere; its next record has the number 30.
func past(t *testing.T) (*dev.Dev, log.Area, *log.Log) {
	t.Helper()
	a := log.Area{First: 3, Sectors: 9}
	d := disk(t, put(14, a, 0))
	l := opened(t, d, a, 0, 1, 0)
	for seq := 1; seq < 30; seq++ {
		appended(t, l, letters(-seq, 40+seq*50%120), seq)
		must(t, l.Trim(seq+1))
	}
	must(t, l.Flush())
	return d, a, l
}

// LO3: behind a crash after any count of writes, whichever sectors are kept, the records are a begin of those that were appended, with all that were flushed.
func TestCrash(t *testing.T) {
	for _, lengths := range [][]int{{0, 0, 0, 0, 0}, {60, 0, 120, 10}, {10, 150, 60}, {300, 10}, {10, 20, 250}, {340}} {
		for flushed := range len(lengths) {
			crashAppending(t, lengths, flushed)
		}
	}
}

// crashAppending appends records, of which so many are flushed, and crashes the device behind each count of writes of the others.
func crashAppending(t *testing.T, lengths []int, flushed int) {
	t.Helper()
	for writes := 0; ; writes++ {
		for try := 0; ; try++ {
			d, a, l := past(t)
			at, seq := l.At()
			var records []log.Record
			for i, n := range lengths {
				if i == flushed {
					must(t, l.Flush())
					must(t, d.Arm(writes))
				}
				r := record(seq+i, n)
				if _, err := l.Append(r.Data); err != nil {
					wantErr(t, "Append", err, api.ErrDown)
					break
				}
				records = append(records, r)
			}
			all := kinds(len(d.Loose()))
			d.Start(all[try])
			l, records = wantBegin(t, d, a, at, seq, records, flushed)
			wantGoesOn(t, d, a, l, records)
			if try+1 < len(all) {
				continue
			}
			if len(all[0]) < writes {
				return // all were written, and no write was left to crash it
			}
			break
		}
	}
}

// LO3: a flush makes safe what was appended ahead of it, and no more: of what is appended behind it all may be lost.
func TestCrashFlushed(t *testing.T) {
	for flushed := range 6 {
		d, a, l := past(t)
		at, seq := l.At()
		var records []log.Record
		for i := range 5 {
			if i == flushed {
				must(t, l.Flush())
			}
			records = append(records, record(seq+i, 10*i))
			appended(t, l, records[i].Data, seq+i)
		}
		if flushed == 5 {
			must(t, l.Flush())
		}
		crash(t, d)
		wantErr(t, "Flush", l.Flush(), api.ErrDown)
		d.Start(nil)
		l, records = wantBegin(t, d, a, at, seq, records[:flushed], flushed)
		wantGoesOn(t, d, a, l, records)
	}
}

// LO3: a crash while Open makes noughts, behind any count of writes, whichever of them are kept: what lies whole is read as it was, and no more.
func TestCrashOpening(t *testing.T) {
	for _, whole := range []int{0, 1, 2} {
		records := []log.Record{record(30, 60), record(31, 10)}[:whole]
		behind := [][]api.Block{
			sectorsOf(30+whole, letters(1, 200))[1:],                                                          // its first sector is lost
			append(sectorsOf(30+whole, letters(1, 120))[:2], laid(record(31+whole, 10), record(32, 5))...),    // its last one is, those behind are there
			append([]api.Block{{}, {}}, laid(record(30, 10), record(31, 3), record(32, 3), record(33, 3))...), // none of it was kept
			slices.Repeat([]api.Block{untouched}, 6),
		}
		for _, blocks := range behind {
			crashOpening(t, records, blocks)
		}
	}
}

// crashOpening opens a log whose records have something behind them, again and again, each time with a crash behind one write more.
func crashOpening(t *testing.T, records []log.Record, behind []api.Block) {
	t.Helper()
	a := log.Area{First: 3, Sectors: 9}
	blocks := append(laid(records...), behind...)
	for at := range 9 {
		for writes := 0; ; writes++ {
			opened := false
			for _, kept := range kinds(writes) {
				d := disk(t, put(14, a, at, blocks...))
				must(t, d.Arm(writes))
				l, got, err := log.Open(d, a, at, 30)
				if opened = err == nil; opened {
					wantRecords(t, got, records)
				} else {
					wantErr(t, "Open", err, api.ErrDown)
					wantNoLog(t, l, got)
				}
				d.Start(kept)
				l, _ = wantBegin(t, d, a, at, 30, records, len(records))
				wantGoesOn(t, d, a, l, records)
			}
			if opened {
				break
			}
		}
	}
}

// LO3: what a record that was lost has left is never taken for one that is appended in its place, however many sectors that one has.
func TestCrashNumberAgain(t *testing.T) {
	for _, first := range []int{0, 60, 120, 200, 300} {
		for _, second := range []int{0, 60, 120, 200, 300} {
			for _, kept := range kinds(len(sectorsOf(30, letters(1, first)))) {
				d, a, l := past(t)
				at, seq := l.At()
				one, two := log.Record{Seq: seq, Data: letters(1, first)}, log.Record{Seq: seq, Data: letters(2, second)}
				appended(t, l, one.Data, seq)
				appended(t, l, letters(3, 3), seq+1)
				d.Start(append(slices.Clone(kept), slices.Repeat([]bool{true}, 9)...))
				l, records := wantBegin(t, d, a, at, seq, []log.Record{one, {Seq: seq + 1, Data: letters(3, 3)}}, 0)
				if len(records) == 0 {
					appended(t, l, two.Data, seq)
					must(t, l.Flush())
					d.Start(nil)
					l, records = wantBegin(t, d, a, at, seq, []log.Record{two}, 1)
				}
				wantGoesOn(t, d, a, l, records)
			}
		}
	}
}

// life is a pair, and what was appended since the first record's place, and how many of these were flushed.
type life struct {
	*pair
	said    []log.Record
	flushed int
}

// append appends.
func (f *life) append(data []byte) {
	f.t.Helper()
	f.pair.append(data)
	f.said = slices.Clone(f.m.records)
}

// flush flushes.
func (f *life) flush() {
	f.t.Helper()
	if f.pair.flush() {
		f.flushed = len(f.said)
	}
}

// trim trims, and forgets what was ahead.
func (f *life) trim(seq int) {
	f.t.Helper()
	first := f.m.seq
	f.pair.trim(seq)
	f.said, f.flushed = slices.Clone(f.m.records), max(0, f.flushed-(f.m.seq-first))
}

// again starts the devices anew, and checks that what is read is a begin of what was appended, with all that was flushed, or read once.
func (f *life) again(kept []bool) {
	f.t.Helper()
	f.start(kept)
	now := f.m.records
	if len(now) < f.flushed || len(now) > len(f.said) || !slices.EqualFunc(now, f.said[:len(now)], same) {
		f.t.Fatalf("the records: %v, appended were %v, flushed %d", now, f.said, f.flushed)
	}
	f.said, f.flushed = slices.Clone(now), len(now)
}

// LO1 to LO3: all ways to do five steps in an area of four sectors: to append, to flush, to trim, and to crash, between or in them.
func TestAllWays(t *testing.T) {
	const ways, steps = 9, 5
	all := 1
	for range steps {
		all *= ways
	}
	for n := range all {
		f := &life{pair: newPair(t, make([]api.Block, 4), log.Area{Sectors: 4}, n%4, 1)}
		for i, left := 0, n; i < steps; i, left = i+1, left/ways {
			f.way(left%ways, byte(i))
		}
		f.again(nil)
	}
}

// way does one of the steps.
func (f *life) way(way int, mark byte) {
	f.t.Helper()
	one, two := []byte{mark}, slices.Repeat([]byte{mark}, 60)
	switch way {
	case 0:
		f.append(one)
	case 1:
		f.append(two)
	case 2:
		f.flush()
	case 3:
		f.trim(f.m.seq + 1)
	case 4:
		f.again(nil)
	case 5:
		f.again([]bool{true, true, true, true})
	case 6:
		f.again([]bool{false, true, true, true})
	default: // the first of two sectors is written, and kept, or not
		f.on(func(d *dev.Dev) { d.Arm(1) })
		f.append(two)
		f.again([]bool{way == 7, true, true, true})
	}
}

// LO1 to LO3: whatever is done, and whenever the device crashes, in Open too, and whatever is kept.
func TestAny(t *testing.T) {
	for seed := range int64(300) {
		rnd := rand.New(rand.NewSource(seed))
		a := log.Area{First: rnd.Intn(3), Sectors: 2 + rnd.Intn(14)}
		seq := []int{1, 1 + rnd.Intn(300), 1<<14 - rnd.Intn(20), lastNumber - rnd.Intn(60)}[rnd.Intn(4)]
		sectors := make([]api.Block, a.First+a.Sectors+rnd.Intn(3))
		for i := range sectors {
			if rnd.Intn(3) == 0 {
				sectors[i] = untouched
			}
		}
		f := &life{pair: newPair(t, sectors, a, rnd.Intn(a.Sectors), seq)}
		for range 80 {
			f.any(rnd)
			if rnd.Intn(8) == 0 {
				f.crash(rnd)
			}
		}
	}
}

// any does any step.
func (f *life) any(rnd *rand.Rand) {
	f.t.Helper()
	switch rnd.Intn(8) {
	case 0, 1:
		f.flush()
	case 2, 3:
		f.trim(min(f.m.seq+rnd.Intn(len(f.said)+5)-2, lastNumber)) // from the number behind on no log can be opened
	case 4:
		f.append(anyData(rnd, room*f.m.a.Sectors))
	default:
		f.append(anyData(rnd, 150))
	}
}

// crash does some steps, of which one may crash the devices, starts them anew, crashes them in Open, if that comes to so many writes, and starts them again.
func (f *life) crash(rnd *rand.Rand) {
	f.t.Helper()
	writes := rnd.Intn(6)
	f.on(func(d *dev.Dev) { d.Arm(writes) })
	for range rnd.Intn(4) {
		f.any(rnd)
	}
	kept, writes := anyKept(rnd, len(f.d.Loose())), rnd.Intn(4)
	f.on(func(d *dev.Dev) {
		d.Start(kept)
		d.Arm(writes)
	})
	f.open()
	f.again(anyKept(rnd, len(f.d.Loose())))
}
