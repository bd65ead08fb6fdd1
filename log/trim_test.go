package log_test

import (
	"slices"
	"testing"

	"drydock/api"
	"drydock/log"
)

// LO2: Trim drops the records below a number: from the first one's to the next one, and no others; nothing is written.
func TestTrim(t *testing.T) {
	a := log.Area{First: 1, Sectors: 9}
	needs := []int{2, 1, 3, 2}
	for at := range 9 {
		for first := range len(needs) + 1 {
			for second := first; second <= len(needs); second++ {
				d := device(t, 12)
				l := opened(t, d, a, at, 20, 0)
				for i, need := range needs {
					appended(t, l, letters(i, need*room-10), 20+i)
				}
				before, writes, loose := image(t, d), d.Writes(), d.Loose()
				must(t, d.Arm(0))
				place := at
				for i := range second + 1 {
					if i == first || i == second {
						must(t, l.Trim(20+i))
						wantTrimmed(t, l, place, 20+i, 24, needs[i:])
					}
					if i < len(needs) {
						place = (place + needs[i]) % 9
					}
				}
				if d.Writes() != writes || !slices.Equal(d.Loose(), loose) || !slices.Equal(image(t, d), before) {
					t.Fatal("Trim writes, or flushes")
				}
			}
		}
	}
}

// wantTrimmed checks what a log of 9 sectors tells behind a Trim, and that no number but those of its records, and the next one, can be trimmed to.
func wantTrimmed(t *testing.T, l *log.Log, at, seq, next int, needs []int) {
	t.Helper()
	free := 9
	for _, need := range needs {
		free -= need
	}
	for _, wrong := range edges {
		if wrong < seq || wrong > next {
			wantErr(t, "Trim", l.Trim(wrong), api.ErrRange)
		}
	}
	for _, wrong := range []int{seq - 1, seq - 2, next + 1, next + 2} {
		wantErr(t, "Trim", l.Trim(wrong), api.ErrRange)
	}
	must(t, l.Trim(seq)) // of what is trimmed already there is no more
	wantLog(t, l, at, seq, next, free)
}

// LO2: an empty log can be trimmed to its next number alone.
func TestTrimEmpty(t *testing.T) {
	for _, seq := range []int{1, 2, 300, lastNumber} {
		l := opened(t, device(t, 9), log.Area{Sectors: 9}, 8, seq, 0)
		wantTrimmed(t, l, 8, seq, seq, nil)
	}
}

// LO2: what is trimmed makes room; records that are left are read from the place on that At tells, behind those that come round.
func TestTrimGoesOn(t *testing.T) {
	a := log.Area{First: 2, Sectors: 7}
	d := device(t, 10)
	l := opened(t, d, a, 3, 1, 0)
	var records []log.Record
	for seq := 1; seq < 300; seq++ {
		r := record(seq, seq*7%200)
		for log.Need(len(r.Data), seq) > l.Free()-1 {
			wantNoAppend(t, l, r.Data, api.ErrFull)
			must(t, l.Trim(records[0].Seq+1))
			records = records[1:]
		}
		appended(t, l, r.Data, seq)
		records = append(records, r)
		at, first := l.At()
		if first != records[0].Seq || l.Free() != 7-len(laid(records...)) {
			t.Fatalf("At %d, %d, Free %d, of %v", at, first, l.Free(), records)
		}
		// Open wipes what is trimmed, so that it is asked on another device
		other := disk(t, image(t, d))
		wantRead(t, other, a, at, first, records...)
	}
}

// LO2: records that Open read are trimmed as those that were appended.
func TestTrimOpened(t *testing.T) {
	a := log.Area{First: 3, Sectors: 9}
	d := disk(t, put(14, a, 6, laid(record(1, 100), record(2, 150))...)) // 2 and 3 sectors
	l := opened(t, d, a, 6, 1, 2)
	appended(t, l, letters(3, 60), 3)
	for i, c := range []struct{ at, free int }{{6, 2}, {8, 4}, {2, 7}, {4, 9}} {
		must(t, l.Trim(i+1))
		wantLog(t, l, c.at, i+1, 4, c.free)
	}
}

// LO2: the place that At tells behind a Trim of all is where the next record begins.
func TestTrimAll(t *testing.T) {
	a := log.Area{First: 3, Sectors: 9}
	d := disk(t, put(14, a, 0))
	l := opened(t, d, a, 0, 1, 0)
	for seq := 1; seq < 60; seq++ {
		appended(t, l, letters(seq, seq*5), seq)
		must(t, l.Trim(seq+1))
		at, first := l.At()
		if first != seq+1 || l.Free() != 9 {
			t.Fatalf("At %d, %d, Free %d", at, first, l.Free())
		}
		appended(t, l, letters(seq+1, 3), seq+1)
		if got := image(t, d)[3+at]; got != laid(record(seq+1, 3))[0] {
			t.Fatalf("the sector that At told: %v", got)
		}
		l = wantRead(t, d, a, at, seq+1, record(seq+1, 3))
		must(t, l.Trim(seq+2))
		at, first = l.At()
		l = wantRead(t, d, a, at, seq+2)
		l = wantRead(t, d, a, (at+8)%9, seq+1) // it has been wiped
	}
}
