package log_test

import (
	"slices"
	"testing"

	"drydock/api"
	"drydock/dev"
	"drydock/log"
)

// LO2: known bytes: where a record lies, and what stands there, the area's end between its sectors.
func TestAppendKnown(t *testing.T) {
	d := device(t, 8)
	a := log.Area{First: 2, Sectors: 4}
	l := opened(t, d, a, 3, 300, 0)
	data := append([]byte{'a', 'b'}, make([]byte, 48)...)
	appended(t, l, data, 300)
	appended(t, l, []byte("ab"), 301)
	want := make([]api.Block, 8)
	want[5] = api.Block{0, 0, 0, 0, 0, 0, 1, 44, 129, 44, 50, 97, 98}
	copy(want[5][61:], []byte{5, 3, 28}) // and of the sum the last byte stands in the next sector
	want[2] = api.Block{0, 0, 0, 0, 0, 0, 1, 44, 110}
	want[3] = api.Block{0, 0, 0, 0, 0, 0, 1, 45, 129, 45, 2, 97, 98, 132, 249, 155, 62}
	if got := image(t, d); !slices.Equal(got, want) {
		t.Errorf("the sectors:\n%v, want\n%v", got, want)
	}
	wantLog(t, l, 3, 300, 302, 1)
}

// LO2: each record lies behind the last one, as many sectors as it needs are written, and nothing is flushed; they are read again.
func TestAppendRead(t *testing.T) {
	a := log.Area{First: 3, Sectors: 20}
	for _, seq := range []int{1, 126, 1<<14 - 2, lastNumber - 5} {
		for at := range 20 {
			d := disk(t, put(25, a, 0))
			l := opened(t, d, a, at, seq, 0)
			var records []log.Record
			for i, n := range []int{10, 0, 45, 300, 46} {
				r := record(seq+i, n)
				writes := d.Writes()
				appended(t, l, r.Data, r.Seq)
				records = append(records, r)
				lie := laid(records...)
				if got := image(t, d); !slices.Equal(got, put(25, a, at, lie...)) {
					t.Fatalf("the sectors:\n%v, want\n%v", got, put(25, a, at, lie...))
				}
				if need := log.Need(n, seq+i); d.Writes()-writes != need || len(d.Loose()) != len(lie) {
					t.Fatalf("%d writes, want %d; %v loose", d.Writes()-writes, need, d.Loose())
				}
				wantLog(t, l, at, seq, seq+i+1, 20-len(lie))
				wantRead(t, d, a, at, seq, records...)
			}
		}
	}
}

// LO2: what stood in a record's sectors, and behind its bytes, is there no longer.
func TestAppendOver(t *testing.T) {
	a := log.Area{First: 1, Sectors: 4}
	d := device(t, 6)
	l := opened(t, d, a, 0, 1, 0)
	for seq := 1; seq < 50; seq++ {
		r := record(seq, 100-2*seq)
		appended(t, l, r.Data, seq)
		at, _ := l.At()
		for i, block := range laid(r) {
			if got := image(t, d)[1+(at+i)%4]; got != block {
				t.Fatalf("sector %d of record %d: %v, want %v", i, seq, got, block)
			}
		}
		must(t, l.Trim(seq+1))
	}
}

// LO2: data of no byte, of 2^16 bytes, and of more.
func TestAppendLong(t *testing.T) {
	a := log.Area{Sectors: 2400}
	d := device(t, 2400)
	l := opened(t, d, a, 2000, 1, 0)
	appended(t, l, nil, 1)
	appended(t, l, []byte{}, 2)
	appended(t, l, letters(3, mostData), 3)
	must(t, d.Arm(0)) // nor does it come to a write
	for _, n := range []int{mostData + 1, mostData + 2, 2 * mostData, 1 << 20} {
		wantNoAppend(t, l, make([]byte, n), api.ErrLong)
		wantLog(t, l, 2000, 1, 4, 2400-2-1171)
	}
	d.Start(slices.Repeat([]bool{true}, 2400))
	appended(t, l, letters(4, mostData-1), 4)
	wantRead(t, d, a, 2000, 1, log.Record{Seq: 1}, log.Record{Seq: 2}, record(3, mostData), record(4, mostData-1))
}

// LO2: a record needs a sector less than are free: of as many there is no room, of one more there is.
func TestAppendFull(t *testing.T) {
	for sectors := 2; sectors < 12; sectors++ {
		for ahead := range sectors {
			for need := 1; need <= sectors+1; need++ {
				d := device(t, 15)
				a := log.Area{First: 2, Sectors: sectors}
				l := opened(t, d, a, need%sectors, 9, 0)
				for i := range ahead {
					appended(t, l, nil, 9+i)
				}
				must(t, d.Arm(need))
				data := letters(1, need*room-10)
				if log.Need(len(data), 9+ahead) != need {
					t.Fatalf("%d bytes need %d sectors, want %d", len(data), log.Need(len(data), 9+ahead), need)
				}
				if need < sectors-ahead {
					appended(t, l, data, 9+ahead)
					wantLog(t, l, need%sectors, 9, 10+ahead, sectors-ahead-need)
					continue
				}
				before, writes := image(t, d), d.Writes()
				for range 2 {
					wantNoAppend(t, l, data, api.ErrFull)
					wantLog(t, l, need%sectors, 9, 9+ahead, sectors-ahead)
				}
				if d.Writes() != writes || d.Down() || !slices.Equal(image(t, d), before) {
					t.Fatalf("%d writes", d.Writes()-writes)
				}
			}
		}
	}
}

// LO2: a record of one byte more needs a sector more, and there is no room for it.
func TestAppendJustFills(t *testing.T) {
	for need := 1; need < 8; need++ {
		most := need*room - 6 // beside the number, the length and the sum
		if most >= 128 {
			most--
		}
		for _, more := range []int{0, 1} {
			l := opened(t, device(t, need+1), log.Area{Sectors: need + 1}, 0, 1, 0)
			if more > 0 {
				wantNoAppend(t, l, letters(1, most+1), api.ErrFull)
				continue
			}
			appended(t, l, letters(1, most), 1)
			wantLog(t, l, 0, 1, 2, 1)
		}
	}
}

// LO2: a log that Open finds full, without a free sector, takes no record till some are trimmed; one sector more than are needed must be free then, too.
func TestAppendBehindFull(t *testing.T) {
	a := log.Area{First: 3, Sectors: 9}
	d := disk(t, put(14, a, 5, laid(record(1, 100), record(2, 150), record(3, 200))...)) // 2, 3 and 4 sectors
	l := opened(t, d, a, 5, 1, 3)
	wantNoAppend(t, l, nil, api.ErrFull)
	must(t, l.Flush())
	must(t, l.Trim(2))
	wantLog(t, l, 7, 2, 4, 2)
	wantNoAppend(t, l, letters(4, 100), api.ErrFull)
	appended(t, l, letters(4, 10), 4)
	wantLog(t, l, 7, 2, 5, 1)
	wantNoAppend(t, l, nil, api.ErrFull)
	wantRead(t, d, a, 7, 2, record(2, 150), record(3, 200), record(4, 10))
}

// LO2: 2^40 is the last number; behind it there is no room, whatever is trimmed.
func TestAppendLastNumber(t *testing.T) {
	a := log.Area{Sectors: 9}
	d := device(t, 9)
	l := opened(t, d, a, 4, lastNumber-1, 0)
	appended(t, l, letters(1, 60), lastNumber-1)
	appended(t, l, letters(2, 60), lastNumber)
	for _, first := range []int{lastNumber - 1, lastNumber, lastNumber + 1} {
		must(t, l.Trim(first))
		wantNoAppend(t, l, nil, api.ErrFull)
		wantNoAppend(t, l, make([]byte, mostData+1), api.ErrLong)
		wantErr(t, "Trim", l.Trim(lastNumber+2), api.ErrRange)
		at := (4 + 2*(first-lastNumber+1)) % 9
		wantLog(t, l, at, first, lastNumber+1, 5+2*(first-lastNumber+1))
	}
	must(t, l.Flush())
	l = wantRead(t, d, a, 4, lastNumber-1, log.Record{Seq: lastNumber - 1, Data: letters(1, 60)}, log.Record{Seq: lastNumber, Data: letters(2, 60)})
	wantLog(t, l, 4, lastNumber-1, lastNumber+1, 5)
	wantNoAppend(t, l, nil, api.ErrFull)
	wantNoOpen(t, d, a, 8, lastNumber+1, api.ErrArg)
}

// LO2: of data that is too long and has no room the length is told first, behind the error for good; neither asks the device.
func TestAppendErrorOrder(t *testing.T) {
	d := device(t, 4)
	l := opened(t, d, log.Area{Sectors: 4}, 0, 1, 0)
	long, full := make([]byte, mostData+1), letters(1, 3*room)
	wantNoAppend(t, l, long, api.ErrLong)
	wantNoAppend(t, l, full, api.ErrFull)
	crash(t, d)
	wantNoAppend(t, l, long, api.ErrLong)
	wantNoAppend(t, l, full, api.ErrFull)
	wantErr(t, "Trim", l.Trim(2), api.ErrRange)
	must(t, l.Trim(1))
	wantNoAppend(t, l, nil, api.ErrDown)
	wantNoAppend(t, l, long, api.ErrDown)
	wantNoAppend(t, l, full, api.ErrDown)
	wantErr(t, "Trim", l.Trim(2), api.ErrDown)
	wantErr(t, "Trim", l.Trim(1), api.ErrDown)
}

// LO2: a record's sectors are written in order; where the device crashes no more are, and of the log nothing is changed.
func TestAppendOrder(t *testing.T) {
	a := log.Area{First: 2, Sectors: 9}
	for at := range 9 {
		for _, n := range []int{0, 60, 120, 350} {
			blocks := sectorsOf(8, letters(8, n))
			for writes := range blocks {
				d := device(t, 12)
				l := opened(t, d, a, at, 7, 0)
				appended(t, l, nil, 7)
				must(t, l.Flush())
				want := image(t, d)
				var loose []int
				must(t, d.Arm(writes))
				wantNoAppend(t, l, letters(8, n), api.ErrDown)
				for i := range writes {
					sector := 2 + (at+1+i)%9
					want[sector] = blocks[i]
					loose = append(loose, sector)
				}
				slices.Sort(loose)
				if !slices.Equal(d.Loose(), loose) || d.Writes() != 1+writes {
					t.Fatalf("%d writes: %v loose, want %v", d.Writes()-1, d.Loose(), loose)
				}
				d.Start(slices.Repeat([]bool{true}, writes))
				if got := image(t, d); !slices.Equal(got, want) {
					t.Fatalf("behind %d writes:\n%v, want\n%v", writes, got, want)
				}
				wantLog(t, l, at, 7, 8, 8)
			}
		}
	}
}

// LO2: Flush makes all safe that is loose on the device, and writes nothing.
func TestFlush(t *testing.T) {
	a := log.Area{First: 2, Sectors: 6}
	d := device(t, 10)
	l := opened(t, d, a, 5, 1, 0)
	appended(t, l, letters(1, 100), 1)
	must(t, d.Write(9, []byte("loose")))
	writes := d.Writes()
	for range 2 {
		must(t, l.Flush())
		wantLog(t, l, 5, 1, 2, 4)
		if d.Writes() != writes || len(d.Loose()) > 0 {
			t.Fatalf("%d writes, %v loose", d.Writes()-writes, d.Loose())
		}
	}
	appended(t, l, letters(2, 3), 2)
	d.Start(nil)
	wantRead(t, d, a, 5, 1, record(1, 100))
}

// ends are how a device's life ends, and how it begins anew.
var ends = []struct {
	name       string
	end, begin func(d *dev.Dev)
}{
	{"crashed", func(d *dev.Dev) { d.Arm(0); d.Write(0, nil) }, func(d *dev.Dev) { d.Start(nil) }},
	{"lost", (*dev.Dev).Lose, (*dev.Dev).Replace},
	{"stays down", (*dev.Dev).Lose, func(d *dev.Dev) { d.Start(nil) }},
}

// LO2: an error of the device is answered by each call that comes to it, and then by all for good, though the device is there again; of the log nothing is changed.
func TestErrorForGood(t *testing.T) {
	calls := map[string]func(l *log.Log) error{
		"Append":      func(l *log.Log) error { _, err := l.Append(nil); return err },
		"Append long": func(l *log.Log) error { _, err := l.Append(make([]byte, mostData+1)); return err },
		"Append full": func(l *log.Log) error { _, err := l.Append(letters(1, 6*room)); return err },
		"Flush":       (*log.Log).Flush,
		"Trim":        func(l *log.Log) error { return l.Trim(2) },
		"Trim below":  func(l *log.Log) error { return l.Trim(0) },
		"Trim above":  func(l *log.Log) error { return l.Trim(4) },
	}
	for _, c := range ends {
		for _, first := range []string{"Append", "Flush"} {
			for next, call := range calls {
				d := device(t, 7)
				l := opened(t, d, log.Area{Sectors: 6}, 4, 1, 0)
				appended(t, l, letters(1, 100), 1)
				appended(t, l, letters(2, 3), 2)
				must(t, l.Flush())
				c.end(d)
				wantErr(t, c.name+": "+first, calls[first](l), api.ErrDown)
				c.begin(d)
				writes := d.Writes()
				for range 2 {
					wantErr(t, c.name+": "+first+", "+next, call(l), api.ErrDown)
					wantNoAppend(t, l, nil, api.ErrDown)
				}
				wantLog(t, l, 4, 1, 3, 3)
				if d.Writes() != writes {
					t.Fatalf("%s: %s writes", c.name, next)
				}
			}
		}
	}
}

// LO2: so it is of a device that crashes in the midst of a record, and of one that is armed and hasn't crashed it is not.
func TestErrorMidst(t *testing.T) {
	d := device(t, 7)
	l := opened(t, d, log.Area{Sectors: 6}, 4, 1, 0)
	must(t, d.Arm(2))
	appended(t, l, letters(1, 60), 1)
	must(t, l.Flush())
	must(t, l.Trim(2))
	wantNoAppend(t, l, letters(2, 60), api.ErrDown)
	d.Start(nil)
	wantNoAppend(t, l, letters(2, 60), api.ErrDown)
	wantErr(t, "Flush", l.Flush(), api.ErrDown)
	wantErr(t, "Trim", l.Trim(2), api.ErrDown)
	wantLog(t, l, 0, 2, 2, 6)
}

// LO2: errors that are not the device's are not answered for good.
func TestErrorForNow(t *testing.T) {
	l := opened(t, device(t, 3), log.Area{Sectors: 3}, 2, 5, 0)
	wantNoAppend(t, l, make([]byte, mostData+1), api.ErrLong)
	wantNoAppend(t, l, letters(1, 3*room), api.ErrFull)
	wantErr(t, "Trim", l.Trim(4), api.ErrRange)
	wantErr(t, "Trim", l.Trim(6), api.ErrRange)
	must(t, l.Flush())
	appended(t, l, letters(1, 60), 5)
	must(t, l.Trim(6))
	wantLog(t, l, 1, 6, 6, 3)
}
