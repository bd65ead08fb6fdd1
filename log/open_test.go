package log_test

import (
	"bytes"
	"encoding/binary"
	"math"
	"slices"
	"testing"

	"drydock/api"
	"drydock/dev"
	"drydock/log"
)

// outside are areas that are not in a device of 10 sectors.
var outside = []log.Area{
	{First: -1, Sectors: 2}, {First: -1, Sectors: 10}, {First: -7, Sectors: 20}, {First: math.MinInt, Sectors: 2},
	{First: 0, Sectors: 1}, {First: 0, Sectors: 0}, {First: 0, Sectors: -2}, {First: 0, Sectors: math.MinInt},
	{First: 9, Sectors: 1}, {First: 10, Sectors: 0}, {First: 12, Sectors: -2}, {First: math.MaxInt, Sectors: math.MinInt},
	{First: 0, Sectors: 11}, {First: 1, Sectors: 10}, {First: 8, Sectors: 3}, {First: 9, Sectors: 2}, {First: 10, Sectors: 2},
	{First: 0, Sectors: api.MaxSectors}, {First: 0, Sectors: api.MaxSectors + 1}, {First: 0, Sectors: math.MaxInt},
	{First: math.MaxInt, Sectors: 2}, {First: math.MaxInt - 1, Sectors: 2}, {First: math.MaxInt, Sectors: math.MaxInt},
	{First: math.MinInt, Sectors: math.MaxInt}, {First: 3, Sectors: math.MaxInt}, {First: math.MinInt, Sectors: math.MinInt},
}

// states are what a device may be in.
var states = []struct {
	name string
	do   func(d *dev.Dev)
	want api.Errno // of Open, if its numbers can be
}{
	{"new", func(d *dev.Dev) {}, 0},
	{"loose", func(d *dev.Dev) { d.Write(0, letters(1, 64)) }, 0},
	{"crashed", func(d *dev.Dev) { d.Write(0, letters(1, 64)); d.Arm(0); d.Write(1, nil) }, api.ErrDown},
	{"lost", func(d *dev.Dev) { d.Write(0, letters(1, 64)); d.Lose() }, api.ErrDown},
}

// LO1: what can't be is ErrArg, ahead of the device's errors, and nothing is written.
func TestOpenArg(t *testing.T) {
	type numbers struct {
		a       log.Area
		at, seq int
	}
	in := log.Area{First: 2, Sectors: 5}
	var wrong []numbers
	for _, a := range outside {
		wrong = append(wrong, numbers{a, 0, 1}, numbers{a, 1, lastNumber}, numbers{a, -1, 0})
	}
	for _, at := range []int{math.MinInt, -5, -1, 5, 6, 7, 10, math.MaxInt} {
		wrong = append(wrong, numbers{in, at, 1}, numbers{in, at, 0})
	}
	for _, seq := range []int{math.MinInt, -1, 0, lastNumber + 1, math.MaxInt} {
		wrong = append(wrong, numbers{in, 0, seq}, numbers{in, 4, seq}, numbers{in, 5, seq})
	}
	for _, c := range wrong {
		wantNoOpen(t, nil, c.a, c.at, c.seq, api.ErrArg)
		for _, state := range states {
			d := device(t, 10)
			state.do(d)
			writes, loose := d.Writes(), d.Loose()
			wantNoOpen(t, d, c.a, c.at, c.seq, api.ErrArg)
			if d.Writes() != writes || !slices.Equal(d.Loose(), loose) {
				t.Errorf("%v, %s: written", c, state.name)
			}
		}
	}
}

// LO1: no device has no area.
func TestOpenNilDevice(t *testing.T) {
	for _, a := range []log.Area{{0, 2}, {0, 10}, {2, 5}, {0, 0}} {
		wantNoOpen(t, nil, a, 0, 1, api.ErrArg)
	}
}

// LO1: a device that is down, or lost, is told behind that.
func TestOpenDown(t *testing.T) {
	for _, state := range states {
		for at := range 5 {
			d := device(t, 10)
			state.do(d)
			l, records, err := log.Open(d, log.Area{First: 2, Sectors: 5}, at, 1)
			wantErr(t, state.name, err, state.want)
			if state.want != 0 {
				wantNoLog(t, l, records)
			} else {
				wantLog(t, l, at, 1, 1, 5)
			}
		}
	}
}

// LO1: areas up to the device's ends, of two sectors and more, and all their sectors to begin at.
func TestOpenInside(t *testing.T) {
	for _, a := range []log.Area{{0, 2}, {0, 3}, {0, 10}, {1, 9}, {5, 5}, {7, 3}, {8, 2}} {
		for at := range a.Sectors {
			for _, seq := range []int{1, 2, 127, 128, 1 << 20, lastNumber - 1, lastNumber} {
				d := device(t, 10)
				l := opened(t, d, a, at, seq, 0)
				wantLog(t, l, at, seq, seq, a.Sectors)
				appended(t, l, letters(1, 9), seq)
				wantLog(t, l, at, seq, seq+1, a.Sectors-1)
				want := make([]api.Block, 10)
				want[a.First+at] = sectorsOf(seq, letters(1, 9))[0]
				if got := image(t, d); !slices.Equal(got, want) {
					t.Fatalf("%v, at %d:\n%v, want\n%v", a, at, got, want)
				}
			}
		}
	}
}

// LO1: the greatest area, all of the greatest device, records that fill it but for one sector, and one that fills it.
func TestOpenWholeDevice(t *testing.T) {
	d := device(t, api.MaxSectors)
	a := log.Area{Sectors: api.MaxSectors}
	l := opened(t, d, a, 16000, 1, 0)
	var want []log.Record
	for i := 1; log.Need(60000, i) < l.Free(); i++ {
		want = append(want, log.Record{Seq: i, Data: letters(i, 60000)})
		appended(t, l, want[i-1].Data, i)
	}
	for l.Free() > 1 {
		want = append(want, record(l.Next(), 3))
		appended(t, l, want[len(want)-1].Data, len(want))
	}
	wantNoAppend(t, l, nil, api.ErrFull)
	l = wantRead(t, d, a, 16000, 1, want...)
	wantLog(t, l, 16000, 1, len(want)+1, 1)
	full := record(l.Next(), 5)
	must(t, d.Write(15999, sectorsOf(full.Seq, full.Data)[0][:]))
	l = wantRead(t, d, a, 16000, 1, append(want, full)...)
	wantLog(t, l, 16000, 1, len(want)+2, 0)
}

// untouched is what stands where nothing is to be written.
var untouched = api.Block(letters(77, 64))

// put lays blocks into sectors of an area from a place on, round and round; all others of its are noughts.
func put(sectors int, a log.Area, at int, blocks ...api.Block) []api.Block {
	all := slices.Repeat([]api.Block{untouched}, sectors)
	for i := range a.Sectors {
		all[a.First+i] = api.Block{}
	}
	for i, block := range blocks {
		all[a.First+(at+i)%a.Sectors] = block
	}
	return all
}

// laid are the sectors of records.
func laid(l ...log.Record) []api.Block {
	var all []api.Block
	for _, r := range l {
		all = append(all, sectorsOf(r.Seq, r.Data)...)
	}
	return all
}

// wantOpen lays blocks into an area of 9 sectors from a place on, and checks which records Open reads there, and that it leaves just these.
func wantOpen(t *testing.T, at, seq int, blocks []api.Block, want ...log.Record) {
	t.Helper()
	a := log.Area{First: 3, Sectors: 9}
	before := put(14, a, at, blocks...)
	d := disk(t, before)
	l := wantRead(t, d, a, at, seq, want...)
	lie := laid(want...)
	if got := image(t, d); !slices.Equal(got, put(14, a, at, lie...)) {
		t.Fatalf("Open leaves\n%v, want\n%v", got, put(14, a, at, lie...))
	}
	wantLog(t, l, at, seq, seq+len(want), 9-len(lie))
}

// wantOpenAs is wantOpen of sectors that have what Open leaves as it stands.
func wantOpenAs(t *testing.T, at, seq int, blocks []api.Block, stay int, want ...log.Record) {
	t.Helper()
	a := log.Area{First: 3, Sectors: 9}
	d := disk(t, put(14, a, at, blocks...))
	l := wantRead(t, d, a, at, seq, want...)
	if got := image(t, d); !slices.Equal(got, put(14, a, at, blocks[:stay]...)) {
		t.Fatalf("Open leaves\n%v, want\n%v", got, put(14, a, at, blocks[:stay]...))
	}
	wantLog(t, l, at, seq, seq+len(want), 9-stay)
}

// LO1: known bytes: a record with two bytes of data, as the chapter tells it.
func TestOpenKnown(t *testing.T) {
	known := api.Block{0, 0, 0, 0, 0, 0, 1, 44, 129, 44, 2, 97, 98, 131, 246, 152, 61}
	if sum := sumOf([]byte{129, 44, 2, 97, 98}); sum != 131|246<<8|152<<16|61<<24 {
		t.Fatalf("the sum is %d", sum)
	}
	wantOpen(t, 4, 300, []api.Block{known}, log.Record{Seq: 300, Data: []byte("ab")})
}

// LO1: an empty area has no record, whatever number is asked for, and is left as it is.
func TestOpenEmpty(t *testing.T) {
	for at := range 9 {
		for _, seq := range []int{1, 2, 300, lastNumber} {
			wantOpen(t, at, seq, nil)
		}
	}
}

// LO1: records that lie whole are read from the first one on, one behind the other, round the area's end.
func TestOpenWhole(t *testing.T) {
	for _, seq := range []int{1, 126, 1<<14 - 2, lastNumber - 5} {
		l := []log.Record{record(seq, 10), record(seq+1, 0), record(seq+2, 45), record(seq+3, 120), record(seq+4, 46)}
		for n := range len(l) + 1 {
			for at := range 9 {
				wantOpen(t, at, seq, laid(l[:n]...), l[:n]...)
				for first := range n {
					wantOpen(t, at, seq+first, laid(l[first:n]...), l[first:n]...)
				}
			}
		}
	}
}

// LO1: a record of each length, up to all sectors of the area, that just fills its sectors, or has a byte more or less.
func TestOpenLengths(t *testing.T) {
	for n := range 9*room - 6 {
		wantOpen(t, n%9, 5, laid(record(5, n)), record(5, n))
	}
	n := 9*room - 7 // beside the data a number, a length of two bytes, and a sum
	wantOpen(t, 4, 5, laid(record(5, n)), record(5, n))
}

// LO1: data of nothing but noughts lies as whole as others.
func TestOpenNoughts(t *testing.T) {
	for n := range 200 {
		r := log.Record{Seq: 7, Data: make([]byte, n)}
		wantOpen(t, 2, 7, laid(r, record(8, 3)), r, record(8, 3))
	}
}

// LO1: a record of which any sectors are missing (noughts, an older record's, a later one's) is none, nor are those behind it.
func TestOpenTorn(t *testing.T) {
	whole := []log.Record{record(4, 100), record(5, 130), record(6, 70)}
	blocks := laid(whole...) // 2, 3 and 2 sectors
	for _, other := range []api.Block{{}, tagged(3, letters(1, 56)), tagged(5, letters(1, 56)), tagged(7, blocks[2][8:]), untouched} {
		for missing := range 1 << len(blocks) {
			torn, upTo := slices.Clone(blocks), 3
			for i := range blocks {
				if missing>>i&1 != 0 {
					torn[i] = other
					upTo = min(upTo, []int{0, 0, 1, 1, 1, 2, 2}[i])
				}
			}
			wantOpen(t, missing%9, 4, torn, whole[:upTo]...)
		}
	}
}

// LO1: a record of which any one byte is another one is none, but behind its bytes others may stand.
func TestOpenBytesWrong(t *testing.T) {
	ahead, r, behind := record(300, 20), record(301, 90), record(302, 5)
	size := len(recordOf(301, r.Data))
	for i := range 2 * api.BlockSize {
		for _, by := range []byte{1, 2, 127, 128, 255} {
			blocks := laid(ahead, r, behind)
			blocks[1+i/api.BlockSize][i%api.BlockSize] ^= by
			if place := i/api.BlockSize*room + i%api.BlockSize - 8; i%api.BlockSize >= 8 && place >= size {
				wantOpenAs(t, 5, 300, blocks, 4, ahead, r, behind)
			} else {
				wantOpen(t, 5, 300, blocks, ahead)
			}
		}
	}
}

// LO1: more sectors with its tag behind a record do not make it less whole; it has none of them.
func TestOpenTagBehind(t *testing.T) {
	for _, n := range []int{0, 45, 50, 51, 120, 200} {
		r := record(9, n)
		for more := range 9 - len(laid(r)) {
			blocks := append(laid(r), slices.Repeat([]api.Block{tagged(9, letters(2, 56))}, more)...)
			wantOpen(t, n%9, 9, blocks, r)
			if more > 0 {
				wantOpen(t, n%9, 9, append(blocks, laid(record(10, 5))...), r)
			}
		}
		wantOpen(t, 1, 9, slices.Concat(laid(r), laid(r)), r)
	}
}

// LO1: records whose numbers do not follow the first one's, and those ahead, are none.
func TestOpenNumbers(t *testing.T) {
	for _, first := range []int{1, 2, 127, 128, 1 << 30, lastNumber - 1} {
		for _, other := range []int{first - 1, first, first + 2, first + 256, lastNumber + 1, first << 8} {
			wantOpen(t, 2, first, laid(record(first, 60), record(other, 3)), record(first, 60))
			wantOpen(t, 2, first, laid(record(first, 60), record(other, 3), record(first+1, 3)), record(first, 60))
			if other != first {
				wantOpen(t, 8, first, laid(record(other, 60), record(other+1, 3)))
			}
		}
	}
}

// LO1: of a number as the tag and another one as the record's, one is not enough.
func TestOpenTwoNumbers(t *testing.T) {
	for _, other := range []int{0, 1, 6, 8, 263, lastNumber} {
		b := recordOf(other, letters(1, 9))
		wantOpen(t, 3, 7, []api.Block{tagged(7, b)})
		wantOpen(t, 3, 7, []api.Block{tagged(uint64(other), recordOf(7, letters(1, 9)))})
		wantOpen(t, 3, 6, append(laid(record(6, 1)), tagged(7, b)), record(6, 1))
	}
	wantOpen(t, 3, 7, []api.Block{tagged(7|1<<63, recordOf(7, nil))})
	wantOpen(t, 3, 7, []api.Block{tagged(7|1<<40, recordOf(7, nil))})
}

// LO1: a record's bytes are laid in one way: with a number or a length in more bytes than are needed, or with a wrong sum, they are none's.
func TestOpenOtherWays(t *testing.T) {
	for _, b := range [][]byte{
		{128, 7, 1, 'a'}, {255, 0, 0, 0, 0, 0, 0, 0, 7, 1, 'a'}, {7, 128, 1, 'a'}, {7, 255, 0, 0, 0, 0, 0, 0, 0, 1, 'a'},
		{7, 2, 'a'}, {7, 0, 'a'}, {7}, {}, {0, 7, 1, 'a'},
	} {
		wantOpen(t, 3, 7, []api.Block{tagged(7, sealed(b))})
	}
	right := sealed([]byte{7, 1, 'a'})
	wantOpen(t, 3, 7, []api.Block{tagged(7, right)}, log.Record{Seq: 7, Data: []byte("a")})
	slices.Reverse(right[3:])
	wantOpen(t, 3, 7, []api.Block{tagged(7, right)})
	over := number(sumOf([]byte{7, 1, 'a'}) + modulus) // the same remainder, another number
	wantOpen(t, 3, 7, []api.Block{tagged(7, append([]byte{7, 1, 'a'}, over...))})
	wantOpen(t, 3, 7, []api.Block{tagged(7, append(number(7), number(math.MaxUint64)...))})
	wantOpen(t, 3, 7, []api.Block{tagged(7, append(number(7), number(1<<63)...))})
}

// LO1: 2^40 is the last number: what lies behind it is none.
func TestOpenLastNumber(t *testing.T) {
	last := record(lastNumber, 3)
	wantOpen(t, 6, lastNumber, laid(last), last)
	wantOpen(t, 6, lastNumber, laid(last, record(lastNumber+1, 3)), last)
	wantOpen(t, 6, lastNumber-1, laid(record(lastNumber-1, 90), last, record(lastNumber+1, 3)), record(lastNumber-1, 90), last)
}

// LO1: records may have all sectors of the area, though an Append leaves one; then none is free, and none is wiped.
func TestOpenFull(t *testing.T) {
	l := []log.Record{record(1, 100), record(2, 150), record(3, 200)} // 2, 3 and 4 sectors
	for at := range 9 {
		wantOpen(t, at, 1, laid(l...), l...)
		wantOpen(t, at, 1, laid(l[0], l[2], record(3, 1)), l[0])
	}
}

// circle is data of a record with a number below 128 that needs three sectors, of which the third would have what the first one has: its last bytes, the sum, are its first ones.
func circle(t *testing.T, seq int) []byte {
	t.Helper()
	data := letters(seq, 2*room-2)
	first := append(head(seq, len(data)), data[:2]...)
	goal := uint64(binary.LittleEndian.Uint32(first))
	for try := range 100 {
		data[10] = byte(try)
		last := data[len(data)-4:]
		ahead := sumOf(append(head(seq, len(data)), data[:len(data)-4]...))
		// what the last four digits must make up for
		left := (goal + modulus - ahead*257%modulus*257%modulus*257%modulus*257%modulus) % modulus
		for i := range last {
			last[3-i] = byte(left % 257)
			left /= 257
		}
		if b := recordOf(seq, data); bytes.Equal(b[2*room:], b[:4]) {
			return data
		}
	}
	t.Fatal("there is no such record")
	return nil
}

// LO1: a record that goes round an area and on over its own beginning has more sectors than there are, and is none.
func TestOpenCircle(t *testing.T) {
	for seq := 1; seq <= 20; seq++ {
		r := log.Record{Seq: seq, Data: circle(t, seq)}
		if len(laid(r)) != 3 {
			t.Fatalf("%d sectors, want 3", len(laid(r)))
		}
		for _, a := range []log.Area{{0, 2}, {3, 2}, {3, 3}, {3, 4}} {
			for at := range a.Sectors {
				d := disk(t, put(8, a, at, slices.Concat(laid(r), laid(r))[:a.Sectors]...))
				if a.Sectors >= 3 {
					l := wantRead(t, d, a, at, r.Seq, r)
					wantLog(t, l, at, r.Seq, r.Seq+1, a.Sectors-3)
					continue
				}
				l := wantRead(t, d, a, at, r.Seq)
				wantLog(t, l, at, r.Seq, r.Seq, 2)
				if got := image(t, d); !slices.Equal(got, put(8, a, at)) {
					t.Fatalf("Open leaves\n%v", got)
				}
			}
		}
	}
}

// LO1: a record that would need a sector more than those ahead leave is none.
func TestOpenTooMany(t *testing.T) {
	for n := range 9 {
		ahead := record(1, max(0, n*room-8))
		left := 9 - len(laid(ahead))
		r := record(2, left*room-5)
		if left >= 3 {
			r = record(2, left*room-6)
		}
		blocks := laid(ahead, r)
		if len(blocks) != 10 {
			t.Fatalf("%d and %d sectors", len(laid(ahead)), len(laid(r)))
		}
		wantOpen(t, n, 1, blocks[:9], ahead)
	}
}

// LO1: a record has at most 2^16 bytes of data, as Need tells no sectors of more.
func TestOpenLong(t *testing.T) {
	a := log.Area{Sectors: 1200}
	for _, n := range []int{mostData - 1, mostData} {
		wantRead(t, disk(t, put(1200, a, 900, laid(record(3, n), record(4, 1))...)), a, 900, 3, record(3, n), record(4, 1))
	}
	for _, n := range []int{mostData + 1, mostData + 900} {
		l := wantRead(t, disk(t, put(1200, a, 900, laid(record(3, n), record(4, 1))...)), a, 900, 3)
		wantLog(t, l, 900, 3, 3, 1200)
	}
}

// LO1: which sectors are made noughts: those of the area that are none of the records', and are not noughts; each is written once, from the sector behind the last record on, round the area; then all is flushed.
func TestWipeOrder(t *testing.T) {
	a := log.Area{First: 3, Sectors: 9}
	records := []log.Record{record(5, 10), record(6, 60), record(7, 0)} // 4 sectors
	for _, kept := range []int{0, 1, 2, 3} {
		lie := laid(records[:kept]...)
		for dirty := range 1 << (9 - len(lie)) {
			at := dirty % 9
			blocks := slices.Clone(lie)
			var order []int
			for i := range 9 - len(lie) {
				blocks = append(blocks, api.Block{})
				if dirty>>i&1 != 0 {
					blocks[len(blocks)-1] = []api.Block{untouched, {63: 1}, {7: 1}, tagged(9, nil)}[(dirty+i)%4]
					order = append(order, a.First+(at+len(lie)+i)%9)
				}
			}
			before := put(14, a, at, blocks...)
			for writes := range len(order) + 1 {
				wantWiped(t, before, a, at, records[:kept], order, writes)
			}
		}
	}
}

// wantWiped opens an area of a device that crashes behind so many writes, and checks which of the sectors it has made noughts by then, and whether they are safe.
func wantWiped(t *testing.T, before []api.Block, a log.Area, at int, records []log.Record, order []int, writes int) {
	t.Helper()
	d := disk(t, before)
	done := d.Writes()
	must(t, d.Arm(writes))
	after := slices.Clone(before)
	for _, sector := range order[:writes] {
		after[sector] = api.Block{}
	}
	if writes < len(order) {
		wantNoOpen(t, d, a, at, 5, api.ErrDown)
		if want := slices.Sorted(slices.Values(order[:writes])); !slices.Equal(d.Loose(), want) {
			t.Fatalf("behind %d writes: Loose %v, want %v", writes, d.Loose(), want)
		}
		d.Start(slices.Repeat([]bool{true}, writes))
	} else {
		wantRead(t, d, a, at, 5, records...)
		if len(d.Loose()) != 0 {
			t.Fatalf("Open leaves %v loose", d.Loose())
		}
		d.Start(nil)
	}
	if d.Writes()-done != writes || !slices.Equal(image(t, d), after) {
		t.Fatalf("behind %d writes: %d done,\n%v, want\n%v", writes, d.Writes()-done, image(t, d), after)
	}
}

// LO1: the device is flushed only if there was a sector to be made noughts.
func TestOpenFlush(t *testing.T) {
	a := log.Area{First: 2, Sectors: 6}
	for _, records := range [][]log.Record{nil, {record(1, 3)}, {record(1, 100), record(2, 4)}} {
		for _, dirty := range []bool{false, true} {
			blocks := laid(records...)
			if dirty {
				blocks = append(blocks, api.Block{}, untouched)
			}
			d := disk(t, put(10, a, 4, blocks...))
			must(t, d.Write(9, []byte("loose")))
			must(t, d.Write(0, []byte("loose")))
			writes := d.Writes()
			wantRead(t, d, a, 4, 1, records...)
			if dirty {
				if d.Writes() != writes+1 || len(d.Loose()) > 0 {
					t.Errorf("a sector is wiped: %d writes, %v loose", d.Writes()-writes, d.Loose())
				}
			} else if d.Writes() != writes || !slices.Equal(d.Loose(), []int{0, 9}) {
				t.Errorf("nothing is wiped: %d writes, %v loose", d.Writes()-writes, d.Loose())
			}
		}
	}
}

// LO1: what was written, and isn't safe yet, is read all the same; so are noughts.
func TestOpenLoose(t *testing.T) {
	a := log.Area{First: 3, Sectors: 9}
	d := disk(t, put(14, a, 0, laid(record(1, 100))...))
	must(t, d.Write(6, sectorsOf(3, nil)[0][:]))
	must(t, d.Write(5, sectorsOf(2, nil)[0][:]))
	must(t, d.Write(7, untouched[:]))
	must(t, d.Write(7, nil))
	writes := d.Writes()
	l := wantRead(t, d, a, 0, 1, record(1, 100), log.Record{Seq: 2}, log.Record{Seq: 3})
	wantLog(t, l, 0, 1, 4, 5)
	if d.Writes() != writes || !slices.Equal(d.Loose(), []int{5, 6, 7}) {
		t.Errorf("%d writes, %v loose", d.Writes()-writes, d.Loose())
	}
}
