package log_test

import (
	"bytes"
	"errors"
	"math"
	"slices"
	"testing"

	"drydock/api"
	"drydock/dev"
	"drydock/log"
)

// The calls as the chapter lists them.
var (
	_ func(*dev.Dev, log.Area, int, int) (*log.Log, []log.Record, error) = log.Open
	_ func(int, int) int                                                 = log.Need
	_                                                                    = log.Area{First: 0, Sectors: 2}
	_                                                                    = log.Record{Seq: 1, Data: []byte{}}
	_ interface {
		Append(data []byte) (int, error)
		Flush() error
		Trim(seq int) error
		At() (int, int)
		Next() int
		Free() int
	} = (*log.Log)(nil)
)

// must checks that something was done.
func must(t *testing.T, err error) {
	t.Helper()
	if err != nil {
		t.Fatal(err)
	}
}

// wantErr checks that an error is that number, found as the document asks; 0: none.
func wantErr(t *testing.T, what string, err error, want api.Errno) {
	t.Helper()
	if want == 0 {
		if err != nil {
			t.Fatalf("%s: %v, want no error", what, err)
		}
		return
	}
	var got api.Errno
	if !errors.As(err, &got) || got != want {
		t.Fatalf("%s: %v, want %v", what, err, want)
	}
}

// device is a new one of so many sectors.
func device(t *testing.T, sectors int) *dev.Dev {
	t.Helper()
	d, err := dev.New(sectors)
	must(t, err)
	return d
}

// disk is a new device that has these sectors, all safe.
func disk(t *testing.T, sectors []api.Block) *dev.Dev {
	t.Helper()
	d := device(t, len(sectors))
	for i, block := range sectors {
		must(t, d.Write(i, block[:]))
	}
	must(t, d.Flush())
	return d
}

// image are all sectors of a device.
func image(t *testing.T, d *dev.Dev) []api.Block {
	t.Helper()
	all := make([]api.Block, d.Sectors())
	for i := range all {
		b, err := d.Read(i)
		must(t, err)
		all[i] = api.Block(b)
	}
	return all
}

// crash lets a device crash at its next write.
func crash(t *testing.T, d *dev.Dev) {
	t.Helper()
	must(t, d.Arm(0))
	wantErr(t, "the write that crashes", d.Write(0, []byte("never")), api.ErrDown)
}

// opened is a log, and how many records it has is checked.
func opened(t *testing.T, d *dev.Dev, a log.Area, at, seq, records int) *log.Log {
	t.Helper()
	l, got, err := log.Open(d, a, at, seq)
	must(t, err)
	if len(got) != records {
		t.Fatalf("Open: %d records, want %d", len(got), records)
	}
	return l
}

// appended appends data, and checks its number.
func appended(t *testing.T, l *log.Log, data []byte, want int) {
	t.Helper()
	seq, err := l.Append(data)
	if seq != want || err != nil {
		t.Fatalf("Append of %d bytes: %d, %v, want %d", len(data), seq, err, want)
	}
}

// wantNoAppend checks that Append answers an error, and nothing beside it.
func wantNoAppend(t *testing.T, l *log.Log, data []byte, want api.Errno) {
	t.Helper()
	seq, err := l.Append(data)
	wantErr(t, "Append", err, want)
	if seq != 0 {
		t.Fatalf("Append: %d beside an error", seq)
	}
}

// wantNoLog checks that there is nothing beside an error of Open.
func wantNoLog(t *testing.T, l *log.Log, records []log.Record) {
	t.Helper()
	if l != nil || len(records) != 0 {
		t.Fatalf("Open: %v, %v beside an error", l, records)
	}
}

// wantNoOpen checks that Open answers an error, and nothing beside it.
func wantNoOpen(t *testing.T, d *dev.Dev, a log.Area, at, seq int, want api.Errno) {
	t.Helper()
	l, records, err := log.Open(d, a, at, seq)
	wantErr(t, "Open", err, want)
	wantNoLog(t, l, records)
}

// same tells whether two records are.
func same(a, b log.Record) bool { return a.Seq == b.Seq && bytes.Equal(a.Data, b.Data) }

// wantRecords checks which records there are.
func wantRecords(t *testing.T, got, want []log.Record) {
	t.Helper()
	if !slices.EqualFunc(got, want, same) {
		t.Fatalf("the records: %v, want %v", got, want)
	}
}

// wantRead checks which records Open reads.
func wantRead(t *testing.T, d *dev.Dev, a log.Area, at, seq int, want ...log.Record) *log.Log {
	t.Helper()
	l, got, err := log.Open(d, a, at, seq)
	must(t, err)
	wantRecords(t, got, want)
	return l
}

// wantLog checks what a log tells.
func wantLog(t *testing.T, l *log.Log, at, seq, next, free int) {
	t.Helper()
	gotAt, gotSeq := l.At()
	if gotAt != at || gotSeq != seq || l.Next() != next || l.Free() != free {
		t.Fatalf("At %d, %d, Next %d, Free %d, want %d, %d, %d, %d", gotAt, gotSeq, l.Next(), l.Free(), at, seq, next, free)
	}
}

// letters is so many bytes, none of them a nought, of which no two sectors are the same.
func letters(seed, length int) []byte {
	b := make([]byte, length)
	for i := range b {
		b[i] = byte('!' + (seed*31+i*7+i/room)%90)
	}
	return b
}

// record is one with letters.
func record(seq, length int) log.Record { return log.Record{Seq: seq, Data: letters(seq, length)} }

// LO2: the chapter's example.
func TestExample(t *testing.T) {
	l := opened(t, device(t, 4), log.Area{Sectors: 4}, 0, 1, 0)
	appended(t, l, make([]byte, 10), 1)
	wantLog(t, l, 0, 1, 2, 3)
}

// edges are numbers at which something may end.
var edges = []int{math.MinInt, math.MinInt32, -mostData, -1, 0, 1, 2, 127, 128, 1<<14 - 1, 1 << 14, 1<<14 + 1, mostData - 1, mostData, mostData + 1, 1<<21 - 1, 1 << 21, 1<<28 - 1, 1 << 28, 1<<31 - 1, 1<<35 - 1, 1 << 35, lastNumber - 1, lastNumber, lastNumber + 1, 1 << 56, math.MaxInt - 1, math.MaxInt}

// LO1: how many sectors a record takes.
func TestNeed(t *testing.T) {
	for _, c := range []struct{ n, seq, want int }{
		{0, 1, 1}, {10, 1, 1}, // beside the data a number, a length, and a sum of four bytes
		{50, 1, 1}, {51, 1, 2}, {106, 1, 2}, {107, 1, 3}, {127, 1, 3}, {128, 1, 3},
		{50, 127, 1}, {50, 128, 2}, {49, 128, 1},
		{45, lastNumber, 1}, {46, lastNumber, 2},
		{161, 1, 3}, {162, 1, 4}, // a length of two bytes
		{1 << 14, 1, 293},
		{mostData, 1, 1171}, {mostData, lastNumber, 1171},
		{-1, 1, 0}, {math.MinInt, 1, 0}, {mostData + 1, 1, 0}, {math.MaxInt, 1, 0},
		{0, 0, 0}, {0, -1, 0}, {0, math.MinInt, 0}, {0, lastNumber + 1, 0}, {0, math.MaxInt, 0},
		{mostData + 1, 0, 0}, {-1, lastNumber + 1, 0},
	} {
		if got := log.Need(c.n, c.seq); got != c.want {
			t.Errorf("Need(%d, %d): %d, want %d", c.n, c.seq, got, c.want)
		}
	}
}

// LO1: it is as many as the record's bytes fill, of lengths and numbers of each length.
func TestNeedOfAll(t *testing.T) {
	for n := range 500 {
		for _, n := range []int{n, 1<<14 - 250 + n, mostData - n, mostData + n} {
			for _, seq := range edges {
				want := 0
				if n <= mostData && seq >= 1 && seq <= lastNumber {
					bytes := len(head(seq, n)) + n + 4
					want = bytes / room
					if bytes%room > 0 {
						want++
					}
				}
				if got := log.Need(n, seq); got != want {
					t.Fatalf("Need(%d, %d): %d, want %d", n, seq, got, want)
				}
			}
		}
	}
	for _, n := range edges {
		for _, seq := range edges {
			can := n >= 0 && n <= mostData && seq >= 1 && seq <= lastNumber
			if got := log.Need(n, seq); got > 0 != can {
				t.Fatalf("Need(%d, %d): %d", n, seq, got)
			}
		}
	}
}

// LO1: and as many as an Append writes.
func TestNeedWritten(t *testing.T) {
	for _, seq := range []int{1, 127, 128, 1<<14 - 1, 1 << 14, 1 << 21, 1 << 28, 1 << 35, lastNumber} {
		for _, n := range []int{0, 1, 45, 46, 47, 48, 49, 50, 51, 52, 100, 127, 128, 1<<14 - 1, 1 << 14, mostData - 1, mostData} {
			d := device(t, 1300)
			l := opened(t, d, log.Area{Sectors: 1300}, 7, seq, 0)
			appended(t, l, letters(n, n), seq)
			if got := log.Need(n, seq); got != d.Writes() || got != 1300-l.Free() || got != len(sectorsOf(seq, letters(n, n))) {
				t.Fatalf("Need(%d, %d): %d, %d writes, Free %d", n, seq, got, d.Writes(), l.Free())
			}
		}
	}
}

// LO2: no Log has nothing.
func TestNilLog(t *testing.T) {
	var l *log.Log
	for _, data := range [][]byte{nil, {}, {1}, make([]byte, mostData), make([]byte, mostData+1)} {
		wantNoAppend(t, l, data, api.ErrArg)
	}
	for _, seq := range edges {
		wantErr(t, "Trim", l.Trim(seq), api.ErrArg)
	}
	wantErr(t, "Flush", l.Flush(), api.ErrArg)
	wantLog(t, l, 0, 0, 0, 0)
}
