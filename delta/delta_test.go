package delta_test

import (
	"math"
	"math/rand"
	"testing"

	"drydock/api"
	"drydock/delta"
)

// The type and the calls as the chapter lists them.
var (
	_ struct {
		Copy      bool
		From, Len int
		Bytes     []byte
	} = delta.Op{}
	_ func(base, target api.Block, at int) (int, int)       = delta.Match
	_ func(base, target api.Block) []delta.Op               = delta.Ops
	_ func(l []delta.Op) []byte                             = delta.Encode
	_ func(b []byte) ([]delta.Op, error)                    = delta.Decode
	_ func(base api.Block, l []delta.Op) (api.Block, error) = delta.Apply
	_ func(base, target api.Block) []byte                   = delta.Diff
	_ func(base api.Block, b []byte) (api.Block, error)     = delta.Patch
)

// outside are places that no block has.
var outside = []int{
	-1, -2, -size, 1 - size, size, size + 1, 2 * size, 255, 256, 1 << 32, -1 << 32,
	math.MaxInt32, math.MinInt32, math.MaxInt, math.MaxInt - size + 1, math.MinInt, math.MinInt + size - 1,
}

// wantMatch checks a match.
func wantMatch(t *testing.T, base, target api.Block, at, from, n int) {
	t.Helper()
	if gotFrom, got := delta.Match(base, target, at); gotFrom != from || got != n {
		t.Fatalf("Match of\n% x by\n% x at %d: %d, %d, want %d, %d", target, base, at, gotFrom, got, from, n)
	}
}

// wantOps checks a block's parts.
func wantOps(t *testing.T, base, target api.Block, want ...delta.Op) {
	t.Helper()
	if got := delta.Ops(base, target); !same(got, want) {
		t.Fatalf("Ops of\n% x by\n% x:\n%v, want\n%v", target, base, got, want)
	}
}

// DE1: matches that are known: of no bytes, of few, of 3, of 4 and of 64; the longest one, and of those as long the first.
func TestMatch(t *testing.T) {
	digits := block("0123456789")
	for _, c := range []struct {
		base, target api.Block
		at, from, n  int
	}{
		{row(0), row(100), 0, 0, 0},
		{block("abcd"), block("abcd"), 0, 0, 64},
		{block("abcd"), block("abcd"), 1, 1, 63},
		{block("abcd"), block("abcd"), 3, 3, 61},
		{block("abcd"), block("abcd"), 4, 4, 60},
		{digits, block("x"), 0, 0, 0},
		{digits, block("0x"), 0, 0, 1},
		{digits, block("9x"), 0, 9, 1},
		{digits, block("456x"), 0, 4, 3},
		{digits, block("4567x"), 0, 4, 4},
		{digits, block("x4567x"), 0, 0, 0},
		{digits, block("x4567x"), 1, 4, 4},
		{digits, block("x4567x"), 2, 5, 3},
		{digits, block("x4567x"), 4, 7, 1},
		{digits, block("x4567x"), 5, 0, 0},
		{block("abxabcxab"), block("abz"), 0, 0, 2},      // 0, 3 and 7 are as long
		{block("abxabcxabc"), block("abcz"), 0, 3, 3},    // 3 and 7 are, and 0 is not
		{block("abxabcxabcd"), block("abcdz"), 0, 7, 4},  // the last one is longer
		{block("abcdxabcxab"), block("abcdz"), 0, 0, 4},  // the first one is
		{block("aaaab"), block("aaabz"), 0, 1, 4},        // it begins within what is alike by 3 ahead
		{block("aaaaaz"), block("aaay"), 0, 0, 3},        // 0, 1 and 2 are as long
		{block("abababac"), block("ababacz"), 0, 2, 6},   // it begins within what is alike by 5 ahead
		{block("ab"), block("zz\x00\x00\x00"), 2, 2, 62}, // noughts behind
	} {
		wantMatch(t, c.base, c.target, c.at, c.from, c.n)
	}
}

// DE1: a block's bytes are found where the base has them: as many as both have from there on, whichever of them ends.
func TestMatchToTheEnd(t *testing.T) {
	base, target := row(0), row(0)
	for at := range size {
		wantMatch(t, base, target, at, at, size-at)
	}
	for by := 1; by < size; by++ {
		for at := range size {
			from, n := at+by, size-by-at // the base ends ahead of the block
			if from >= size {
				from, n = 0, 0
			}
			wantMatch(t, row(0), row(byte(by)), at, from, n)
			from, n = at-by, size-at // the block ends ahead of the base
			if from < 0 {
				from, n = 0, 0
			}
			wantMatch(t, row(byte(by)), row(0), at, from, n)
		}
	}
}

// DE1: neither the base nor the block goes on at its begin.
func TestMatchGoesNotRound(t *testing.T) {
	wantMatch(t, row(0), with(row(100), 0, "\x3e\x3f\x00\x01\x02"), 0, 62, 2)
	wantMatch(t, row(0), with(with(row(100), 62, "\x05\x06"), 0, "\x07\x08\x09"), 62, 5, 2)
	wantMatch(t, row(0), with(with(row(100), 63, "\x3f"), 0, "\x00\x01"), 63, 63, 1)
}

// DE1: the first and the last place, and those that are none.
func TestMatchPlaces(t *testing.T) {
	wantMatch(t, row(0), row(0), 0, 0, size)
	wantMatch(t, row(0), row(0), size-1, size-1, 1)
	wantMatch(t, row(0), with(row(100), size-1, "\x00"), size-1, 0, 1)
	wantMatch(t, row(0), row(100), size-1, 0, 0)
	for _, at := range outside {
		wantMatch(t, row(0), row(0), at, 0, 0)
		wantMatch(t, api.Block{}, api.Block{}, at, 0, 0)
		wantMatch(t, row(0), row(100), at, 0, 0)
	}
}

// DE1: of places with as long a match it is the first, wherever they are.
func TestMatchFirst(t *testing.T) {
	texts := row(0)
	for n := 1; n <= 20; n++ {
		text := string(texts[:n])
		target := with(row(100), 10, text)
		for one := 0; one+n <= size; one++ {
			for two := one + n; two+n <= size; two++ {
				base := with(with(row(180), one, text), two, text)
				wantMatch(t, base, target, 10, one, n)
			}
		}
	}
}

// DE1: of all blocks of few kinds of bytes, and of any that are made of each other, as the model says.
func TestMatchOfAny(t *testing.T) {
	rnd := rand.New(rand.NewSource(1))
	for range 500 {
		base, target := anyPair(rnd)
		for at := -1; at <= size; at++ {
			from, n := modelMatch(base, target, at)
			wantMatch(t, base, target, at, from, n)
		}
	}
}

// DE1: parts that are known: bytes are told at the begin, between two that copy, and at the end.
func TestOps(t *testing.T) {
	base, other := row(0), row(100)
	from := func(at, end int) string { return string(base[at:end]) }
	rest := func(at, end int) delta.Op { return told(string(other[at:end])) }
	for _, c := range []struct {
		target api.Block
		want   []delta.Op
	}{
		{base, []delta.Op{copied(0, 64)}},
		{other, []delta.Op{rest(0, 64)}},
		{with(base, 0, "xyz"), []delta.Op{told("xyz"), copied(3, 61)}},
		{with(base, 30, "xyz"), []delta.Op{copied(0, 30), told("xyz"), copied(33, 31)}},
		{with(base, 61, "xyz"), []delta.Op{copied(0, 61), told("xyz")}},
		{with(base, 0, "x"), []delta.Op{told("x"), copied(1, 63)}},
		{with(base, 4, "x"), []delta.Op{copied(0, 4), told("x"), copied(5, 59)}},
		{with(base, 3, "x"), []delta.Op{told(from(0, 3) + "x"), copied(4, 60)}},
		{with(base, 59, "x"), []delta.Op{copied(0, 59), told("x"), copied(60, 4)}},
		{with(base, 60, "x"), []delta.Op{copied(0, 60), told("x" + from(61, 64))}},
		{with(base, 63, "x"), []delta.Op{copied(0, 63), told("x")}},
		{with(other, 10, from(7, 10)), []delta.Op{told(string(other[:10]) + from(7, 10) + string(other[13:]))}},
		{with(other, 10, from(7, 11)), []delta.Op{rest(0, 10), copied(7, 4), rest(14, 64)}},
		{with(other, 0, from(60, 64)), []delta.Op{copied(60, 4), rest(4, 64)}},
		{with(other, 60, from(60, 64)), []delta.Op{rest(0, 60), copied(60, 4)}},
		{with(other, 60, from(0, 4)), []delta.Op{rest(0, 60), copied(0, 4)}},
		{with(other, 61, from(0, 3)), []delta.Op{told(string(other[:61]) + from(0, 3))}},
		{block(from(32, 64) + from(0, 32)), []delta.Op{copied(32, 32), copied(0, 32)}},
		{block(from(0, 20) + from(0, 20) + from(0, 24)), []delta.Op{copied(0, 20), copied(0, 20), copied(0, 24)}},
		{block(from(0, 30) + "xy" + from(5, 8) + "z" + from(9, 37)), []delta.Op{copied(0, 30), told("xy" + from(5, 8) + "z"), copied(9, 28)}},
	} {
		wantOps(t, base, c.target, c.want...)
	}
}

// DE1: what is worth it is copied at once, though a longer one begins a byte behind; what isn't is told, and that one copied.
func TestOpsGoOnFromTheFirstByte(t *testing.T) {
	wantOps(t, block("abcd--bcdefghi"), block("abcdefghi"), copied(0, 4), copied(9, 55), copied(14, 5))
	wantOps(t, block("abc-bcdefgh"), block("abcdefgh"), told("a"), copied(4, 60), told("\x00\x00\x00"))
	wantOps(t, block("abcd--abcde"), block("abcde"), copied(6, 58), copied(11, 6))
}

// DE1: one text of the base, of any length, at any place: it is copied from 4 bytes on.
func TestOpsOfOneText(t *testing.T) {
	base, other := row(0), row(100)
	for n := range size + 1 {
		for at := range size - n + 1 {
			for _, from := range []int{0, size - n, at * 7 % (size - n + 1)} {
				target := with(other, at, string(base[from:from+n]))
				var want []delta.Op
				switch {
				case n < worth:
					want = append(want, told(string(target[:])))
				case at > 0 && at+n < size:
					want = append(want, told(string(other[:at])), copied(from, n), told(string(other[at+n:])))
				case at > 0:
					want = append(want, told(string(other[:at])), copied(from, n))
				case n < size:
					want = append(want, copied(from, n), told(string(other[n:])))
				default:
					want = append(want, copied(from, n))
				}
				wantOps(t, base, target, want...)
			}
		}
	}
}

// DE1: noughts of a base that has 64, few, 4, 3 and none of them.
func TestOpsOfNoughts(t *testing.T) {
	var none api.Block
	wantOps(t, none, none, copied(0, 64))
	wantOps(t, with(none, 0, "x"), none, copied(1, 63), told("\x00"))
	wantOps(t, with(row(1), 10, string(none[:20])), none, copied(10, 20), copied(10, 20), copied(10, 20), copied(10, 4))
	wantOps(t, with(row(1), 10, string(none[:3])), none, told(string(none[:])))
	wantOps(t, row(1), none, told(string(none[:])))
	var four []delta.Op
	for range 16 {
		four = append(four, copied(60, 4))
	}
	wantOps(t, with(row(1), 60, string(none[:4])), none, four...)
}

// DE1: any blocks' parts are those of the model: in some bytes are told at the begin, between two that copy, at the end, and nowhere.
func TestOpsOfAny(t *testing.T) {
	rnd := rand.New(rand.NewSource(2))
	var begin, between, end, nowhere int
	for range 2000 {
		base, target := anyPair(rnd)
		want := modelOps(base, target)
		wantOps(t, base, target, want...)
		for i, o := range want {
			switch {
			case o.Copy && len(want) == 1:
				nowhere++
			case o.Copy || len(want) == 1:
			case i == 0:
				begin++
			case i == len(want)-1:
				end++
			default:
				between++
			}
		}
	}
	if begin < 100 || between < 100 || end < 100 || nowhere < 20 {
		t.Errorf("told at the begin %d, between %d, at the end %d, nowhere %d: too few", begin, between, end, nowhere)
	}
}

// DE1: parts are in order: all bytes once, none that is told behind another one, none empty, and no field that has no meaning.
func TestOpsAreInOrder(t *testing.T) {
	rnd := rand.New(rand.NewSource(3))
	for range 2000 {
		base, target := anyPair(rnd)
		at := 0
		toldAhead := false
		for _, o := range delta.Ops(base, target) {
			bytesOf := o.Bytes
			if o.Copy {
				bytesOf = base[o.From:][:o.Len]
			}
			if o.Copy && (o.Len < worth || len(o.Bytes) > 0) || !o.Copy && (toldAhead || o.From != 0 || o.Len != 0) {
				t.Fatalf("% x by % x, at %d: %v", target, base, at, o)
			}
			if len(bytesOf) == 0 || string(bytesOf) != string(target[at:][:len(bytesOf)]) {
				t.Fatalf("% x by % x, at %d: % x", target, base, at, bytesOf)
			}
			at += len(bytesOf)
			toldAhead = !o.Copy
		}
		if at != size {
			t.Fatalf("% x by % x: %d bytes", target, base, at)
		}
	}
}
