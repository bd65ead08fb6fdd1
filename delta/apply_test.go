package delta_test

import (
	"math"
	"math/rand"
	"slices"
	"strings"
	"testing"

	"drydock/api"
	"drydock/delta"
)

// wantApply checks the block that parts make, or the error.
func wantApply(t *testing.T, base api.Block, l []delta.Op, want api.Block, errno api.Errno) {
	t.Helper()
	got, err := delta.Apply(base, l)
	wantErr(t, "Apply", err, errno)
	if got != want {
		t.Fatalf("Apply(% x, %v):\n% x, want\n% x", base, l[:min(len(l), 70)], got, want)
	}
}

// wantFault checks that parts make no block.
func wantFault(t *testing.T, base api.Block, errno api.Errno, l ...delta.Op) {
	t.Helper()
	wantApply(t, base, l, api.Block{}, errno)
}

// singles are 64 parts of a byte each, of which some copy, from the last byte on to the first, and some are told.
func singles(copies func(i int) bool) []delta.Op {
	var l []delta.Op
	for i := range size {
		if copies(i) {
			l = append(l, copied(size-1-i, 1))
		} else {
			l = append(l, told(string(rune('A'+i%26))))
		}
	}
	return l
}

// DE2: blocks that are known, of one part and of 64.
func TestApply(t *testing.T) {
	base := row(0)
	sixtyFour := strings.Repeat("abcdefgh", 8)
	turned := base
	slices.Reverse(turned[:])
	for _, c := range []struct {
		l    []delta.Op
		want api.Block
	}{
		{[]delta.Op{copied(0, 64)}, base},
		{[]delta.Op{told(sixtyFour)}, block(sixtyFour)},
		{[]delta.Op{copied(0, 63), told("a")}, with(base, 63, "a")},
		{[]delta.Op{told("a"), copied(1, 63)}, with(base, 0, "a")},
		{[]delta.Op{copied(0, 30), told("xyz"), copied(33, 31)}, with(base, 30, "xyz")},
		{[]delta.Op{copied(32, 32), copied(0, 32)}, block(string(base[32:]) + string(base[:32]))},
		{[]delta.Op{copied(16, 32), copied(16, 32)}, block(strings.Repeat(string(base[16:48]), 2))},
		{[]delta.Op{told(sixtyFour[:32]), told(sixtyFour[:32])}, block(sixtyFour)},
		{[]delta.Op{copied(63, 1), told(sixtyFour[:63])}, block("\x3f" + sixtyFour[:63])},
		{singles(func(int) bool { return true }), turned},
		{singles(func(int) bool { return false }), block("ABCDEFGHIJKLMNOPQRSTUVWXYZABCDEFGHIJKLMNOPQRSTUVWXYZABCDEFGHIJKL")},
		{singles(func(i int) bool { return i > 0 && i < 63 }), with(with(turned, 0, "A"), 63, "L")},
		{slices.Repeat([]delta.Op{copied(5, 1)}, 64), block(strings.Repeat("\x05", 64))},
	} {
		wantApply(t, base, c.l, c.want, 0)
	}
}

// DE2: what has no meaning in a part is not asked for.
func TestApplyOfWhatHasNoMeaning(t *testing.T) {
	wantApply(t, row(0), []delta.Op{{Copy: true, From: 0, Len: 64, Bytes: []byte("abc")}}, row(0), 0)
	wantApply(t, row(0), []delta.Op{{From: -1, Len: 100, Bytes: []byte("abc")}, copied(3, 61)}, with(row(0), 0, "abc"), 0)
	wantFault(t, row(0), api.ErrRange, delta.Op{Copy: true, From: 0, Len: 0, Bytes: make([]byte, 64)})
	wantFault(t, row(0), api.ErrForm, delta.Op{From: 0, Len: 64})
}

// DE2: ErrRange, if a part copies from below 0, less than 1 byte, or from behind the base: of no place and no length else.
func TestApplyCopiesFromTheBase(t *testing.T) {
	numbers := append([]int{0, 1, 2, 3, 31, 32, 33, 61, 62, 63}, outside...)
	rest := strings.Repeat("a", size)
	for _, from := range numbers {
		for _, n := range numbers {
			if !inside(from, n) {
				wantFault(t, row(0), api.ErrRange, copied(from, n))
				wantFault(t, row(0), api.ErrRange, copied(from, n), told(rest))
				wantFault(t, row(0), api.ErrRange, told(rest[:9]), copied(from, n))
				continue
			}
			base := row(0)
			wantApply(t, base, []delta.Op{copied(from, n), told(rest[n:])}[:min(2, 1+size-n)], block(string(base[from:from+n])+rest[n:]), 0)
		}
	}
}

// DE2: ErrForm, if a part that is told has no bytes, wherever it stands.
func TestApplyOfNoBytes(t *testing.T) {
	for _, none := range []delta.Op{{}, {Bytes: []byte{}}, {From: 3, Len: 5}} {
		wantFault(t, row(0), api.ErrForm, none)
		wantFault(t, row(0), api.ErrForm, none, copied(0, 64))
		wantFault(t, row(0), api.ErrForm, copied(0, 32), none, copied(32, 32))
		wantFault(t, row(0), api.ErrForm, copied(0, 64), none)
		wantFault(t, row(0), api.ErrForm, copied(0, 3), none)
	}
}

// DE2: ErrLong, if fewer bytes come of all, or more: 64 alone are a block.
func TestApplyOfFewerAndMore(t *testing.T) {
	base := row(0)
	wantFault(t, base, api.ErrLong)
	for n := 1; n <= 3*size; n++ {
		text := told(strings.Repeat("a", n))
		single := slices.Repeat([]delta.Op{copied(7, 1)}, n)
		if n == size {
			wantApply(t, base, []delta.Op{text}, block(strings.Repeat("a", size)), 0)
			wantApply(t, base, single, block(strings.Repeat("\x07", size)), 0)
			continue
		}
		wantFault(t, base, api.ErrLong, text)
		wantFault(t, base, api.ErrLong, single...)
	}
	for _, l := range [][]delta.Op{
		{copied(0, 63)}, {copied(1, 63)}, {copied(0, 64), copied(0, 1)}, {copied(0, 64), told("a")}, {told("a"), copied(0, 64)},
		{copied(0, 32), copied(0, 31)}, {copied(0, 32), copied(0, 33)}, {copied(0, 64), copied(0, 64)}, {copied(0, 64), copied(0, 64), copied(0, 64), copied(0, 64)},
		{copied(0, 60), told("abc")}, {copied(0, 60), told("abcde")}, {told(strings.Repeat("a", 256))}, {told(strings.Repeat("a", 1<<16+64))},
		{told(strings.Repeat("a", 192)), copied(0, 64)},
	} {
		wantFault(t, base, api.ErrLong, l...)
	}
}

// DE2: the first fault, part by part: a part's own one, and then that there is more by now than a block; that there is less is told at the end.
func TestApplyFirstFault(t *testing.T) {
	base := row(0)
	far, below, empty, none := copied(60, 5), copied(-1, 1), copied(3, 0), told("")
	all, one, more := copied(0, 64), told("a"), told(strings.Repeat("a", 65))
	for _, c := range []struct {
		l    []delta.Op
		want api.Errno
	}{
		{[]delta.Op{far, none}, api.ErrRange},
		{[]delta.Op{none, far}, api.ErrForm},
		{[]delta.Op{below, none}, api.ErrRange},
		{[]delta.Op{none, below}, api.ErrForm},
		{[]delta.Op{empty, none}, api.ErrRange},
		{[]delta.Op{none, empty}, api.ErrForm},
		{[]delta.Op{one, far}, api.ErrRange},
		{[]delta.Op{one, none}, api.ErrForm},
		{[]delta.Op{all, far}, api.ErrRange},
		{[]delta.Op{all, below}, api.ErrRange},
		{[]delta.Op{all, empty}, api.ErrRange},
		{[]delta.Op{all, none}, api.ErrForm},
		{[]delta.Op{all, one}, api.ErrLong},
		{[]delta.Op{all, one, far}, api.ErrLong},
		{[]delta.Op{all, one, none}, api.ErrLong},
		{[]delta.Op{all, all, none}, api.ErrLong},
		{[]delta.Op{all, far, one}, api.ErrRange},
		{[]delta.Op{all, none, one}, api.ErrForm},
		{[]delta.Op{more, far}, api.ErrLong},
		{[]delta.Op{more, none}, api.ErrLong},
		{[]delta.Op{far, more}, api.ErrRange},
		{[]delta.Op{none, more}, api.ErrForm},
		{[]delta.Op{one, all, far}, api.ErrLong},
		{[]delta.Op{copied(0, 65), none}, api.ErrRange},
		{[]delta.Op{all, copied(0, 65)}, api.ErrRange},
		{[]delta.Op{one, one, one, none, far}, api.ErrForm},
		{[]delta.Op{one, one, one, far, none}, api.ErrRange},
		{[]delta.Op{one, one, one}, api.ErrLong},
	} {
		wantFault(t, base, c.want, c.l...)
	}
}

// anyWrongParts are some that make a block, or have a part or two too many, too few or of wrong numbers.
func anyWrongParts(rnd *rand.Rand) []delta.Op {
	var l []delta.Op
	for left := size; left > 0; {
		n := 1 + rnd.Intn(left)
		if rnd.Intn(2) == 0 {
			l = append(l, copied(rnd.Intn(size-n+1), n))
		} else {
			l = append(l, delta.Op{Bytes: anyBytes(rnd, n, 256)})
		}
		left -= n
	}
	for range rnd.Intn(4) {
		at := rnd.Intn(len(l))
		switch rnd.Intn(5) {
		case 0:
			l = slices.Insert(l, at, delta.Op{})
		case 1:
			l = slices.Insert(l, at+rnd.Intn(2), told("a"))
		case 2:
			l[at].From = []int{-1, 1, 63, 64, math.MaxInt, math.MinInt}[rnd.Intn(6)]
		case 3:
			l[at].Len = []int{-1, 0, 1, 64, 65, math.MaxInt, math.MinInt}[rnd.Intn(7)]
		case 4:
			l[at].Bytes = anyBytes(rnd, rnd.Intn(size+2), 256)
		}
	}
	return l
}

// DE2: any parts, with faults too, make the block or the error of the model.
func TestApplyOfAny(t *testing.T) {
	rnd := rand.New(rand.NewSource(6))
	seen := [5]int{}
	for range 20000 {
		base, l := anyBlock(rnd, 256), anyWrongParts(rnd)
		want, errno := modelApply(base, l)
		seen[errno]++
		wantApply(t, base, l, want, errno)
	}
	for _, errno := range []api.Errno{0, api.ErrLong, api.ErrForm, api.ErrRange} {
		if seen[errno] < 1000 {
			t.Errorf("so few of %d: %d", errno, seen[errno])
		}
	}
}
