package delta_test

import (
	"bytes"
	"math/rand"
	"slices"
	"strings"
	"sync"
	"testing"

	"drydock/api"
	"drydock/delta"
)

// spare are parts in a list that has room behind, whose bytes have room behind too.
func spare(l []delta.Op) []delta.Op {
	own := make([]delta.Op, 0, 2*len(l)+3)
	for _, o := range l {
		o.Bytes = append(make([]byte, 0, 2*len(o.Bytes)+3), o.Bytes...)
		own = append(own, o)
	}
	return own
}

// wholly are parts with all the room behind them, as they read now.
func wholly(l []delta.Op) []delta.Op {
	all := slices.Clone(l[:cap(l)])
	for i, o := range all {
		all[i].Bytes = bytes.Clone(o.Bytes[:cap(o.Bytes)])
	}
	return all
}

// fill writes over bytes and the room behind them.
func fill(b []byte) {
	b = b[:cap(b)]
	for i := range b {
		b[i] = 'X'
	}
}

// fillParts writes over parts, their bytes, and the room behind.
func fillParts(l []delta.Op) {
	for i := range l {
		fill(l[i].Bytes)
	}
	l = l[:cap(l)]
	for i := range l {
		l[i] = delta.Op{From: 77, Bytes: []byte("X")}
	}
}

// P6: every call ends and none panics, whatever it is given.
func TestTotal(t *testing.T) {
	lists := [][]delta.Op{nil, {}, {{}}, make([]delta.Op, 1<<17), {told(strings.Repeat("a", api.MaxBlob))}, slices.Repeat([]delta.Op{copied(1, 1)}, 1<<17)}
	for _, from := range outside {
		for _, n := range outside {
			lists = append(lists, []delta.Op{copied(from, n)}, []delta.Op{copied(0, 5), {From: from, Len: n}, copied(from, n)})
		}
	}
	texts := []string{"", "\x00", "\x01", "\xff", strings.Repeat("\xff", 9), strings.Repeat("\x00", 200), strings.Repeat("\x01", 200), strings.Repeat("\xff", api.MaxBlob)}
	for _, c := range encoded {
		texts = append(texts, c.want)
	}
	for _, base := range []api.Block{{}, row(0), row(200)} {
		for _, l := range lists {
			delta.Encode(l)
			delta.Apply(base, l)
		}
		for _, s := range texts {
			delta.Decode([]byte(s))
			delta.Patch(base, []byte(s))
		}
		for _, at := range outside {
			delta.Match(base, base, at)
		}
		delta.Ops(base, row(3))
		delta.Diff(base, row(3))
	}
}

// P6: of bytes of no meaning each call ends, and beside an error there is nothing.
func TestTotalOfAnyBytes(t *testing.T) {
	rnd := rand.New(rand.NewSource(10))
	for range 20000 {
		b := anyBytes(rnd, rnd.Intn(150), []int{2, 3, 70, 256}[rnd.Intn(4)])
		if l, err := delta.Decode(b); err != nil && len(l) > 0 {
			t.Fatalf("% x: %v beside %v", b, l, err)
		}
		if made, err := delta.Patch(row(0), b); err != nil && made != (api.Block{}) {
			t.Fatalf("% x: % x beside %v", b, made, err)
		}
	}
}

// P6: the same call answers the same, whatever was asked between.
func TestSameAgain(t *testing.T) {
	rnd := rand.New(rand.NewSource(11))
	for range 200 {
		base, target := anyPair(rnd)
		at := rnd.Intn(size)
		from, n := delta.Match(base, target, at)
		l, b := delta.Ops(base, target), delta.Diff(base, target)
		for range 3 {
			other, another := anyPair(rnd)
			delta.Patch(other, delta.Diff(other, another))
			delta.Apply(other, anyWrongParts(rnd))
			delta.Decode(anyBytes(rnd, 9, 3))
			wantMatch(t, base, target, at, from, n)
			wantOps(t, base, target, l...)
			wantDiff(t, base, target, b)
			wantEncode(t, l, b)
			wantDecode(t, b, l)
			wantApply(t, base, l, target, 0)
			wantPatch(t, base, b, target, 0)
		}
	}
}

// P6: parts that were handed in read afterwards as they did, their bytes and the room behind them too.
func TestPartsAlone(t *testing.T) {
	rnd := rand.New(rand.NewSource(12))
	for range 2000 {
		base, l := anyBlock(rnd, 256), spare(anyWrongParts(rnd))
		before, was := wholly(l), base
		b := delta.Encode(l)
		delta.Apply(base, l)
		if !same(wholly(l), before) || base != was {
			t.Fatalf("changed to %v and % x, was %v and % x", wholly(l), base, before, was)
		}
		want := bytes.Clone(b)
		fillParts(l)
		if !bytes.Equal(b, want) {
			t.Fatalf("Encode's answer shares memory: % x, was % x", b, want)
		}
	}
	shared := []byte(strings.Repeat("ab", 16)) // parts that share bytes are parts as any other
	wantApply(t, row(0), []delta.Op{{Bytes: shared}, {Bytes: shared}}, block(strings.Repeat("ab", 32)), 0)
	wantApply(t, row(0), []delta.Op{{Bytes: shared[:30]}, {Bytes: shared[:4]}, {Bytes: shared[2:]}}, block(strings.Repeat("ab", 32)), 0)
}

// P6: bytes that were handed in read afterwards as they did, the room behind and what is ahead too, and are not kept.
func TestBytesAlone(t *testing.T) {
	rnd := rand.New(rand.NewSource(13))
	for range 2000 {
		b := modelEncode(anyParts(rnd, rnd.Intn(9)))
		all := append(anyBytes(rnd, 5, 256), b...)
		all = append(all, anyBytes(rnd, 90, 256)...)
		before := bytes.Clone(all)
		l, err := delta.Decode(all[5 : 5+len(b)])
		wantErr(t, "Decode", err, 0)
		delta.Patch(row(0), all[5:5+len(b)])
		if !bytes.Equal(all, before) {
			t.Fatalf("changed to % x, was % x", all, before)
		}
		fill(all)
		if got := delta.Encode(l); !bytes.Equal(got, b) {
			t.Fatalf("Decode's answer shares memory: % x, was % x", got, b)
		}
	}
}

// P6: blocks that were handed in read afterwards as they did, and no answer changes them, or hangs on them afterwards.
func TestBlocksAlone(t *testing.T) {
	rnd := rand.New(rand.NewSource(14))
	for range 500 {
		base, target := anyPair(rnd)
		wasBase, wasTarget := base, target
		l, b := delta.Ops(base, target), delta.Diff(base, target)
		made, err := delta.Patch(base, b)
		wantErr(t, "Patch", err, 0)
		if base != wasBase || target != wasTarget {
			t.Fatalf("changed to % x and % x, was % x and % x", base, target, wasBase, wasTarget)
		}
		want := modelOps(base, target)
		fill(base[:])
		fill(target[:])
		if !same(l, want) || !bytes.Equal(b, modelEncode(want)) || made != wasTarget {
			t.Fatalf("an answer shares memory: %v, % x, % x", l, b, made)
		}
		fillParts(l)
		fill(b)
		clear(made[:])
		wantOps(t, wasBase, wasTarget, modelOps(wasBase, wasTarget)...)
		wantDiff(t, wasBase, wasTarget, modelEncode(modelOps(wasBase, wasTarget)))
		wantBack(t, wasBase, wasTarget)
	}
}

// wantApart checks that no bytes of parts share memory: each is written over in turn, its room behind too.
func wantApart(t *testing.T, l, other []delta.Op) {
	t.Helper()
	before := spare(l)
	fillParts(other)
	for i := range l {
		fill(l[i].Bytes)
		_ = append(l[i].Bytes, "YYYY"...)
		if !same(l[i+1:], before[i+1:]) {
			t.Fatalf("the bytes of part %d are shared: %v, was %v", i, l, before)
		}
	}
	for i, o := range l {
		if string(o.Bytes) != strings.Repeat("X", len(before[i].Bytes)) {
			t.Fatalf("the bytes of part %d were written over: %v", i, l)
		}
	}
}

// P6: no lists of one answer share memory, and no two answers do, spare room too.
func TestAnswersAlone(t *testing.T) {
	rnd := rand.New(rand.NewSource(15))
	for range 500 {
		base, target := anyPair(rnd)
		wantApart(t, delta.Ops(base, target), delta.Ops(base, target))
		b := modelEncode(anyParts(rnd, rnd.Intn(20)))
		one, err := delta.Decode(b)
		wantErr(t, "Decode", err, 0)
		two, _ := delta.Decode(b)
		wantApart(t, one, two)
		x, y := delta.Diff(base, target), delta.Diff(base, target)
		fill(x)
		if !bytes.Equal(y, modelEncode(modelOps(base, target))) {
			t.Fatalf("answers of Diff share memory: % x", y)
		}
		l := anyWrongParts(rnd)
		x, y = delta.Encode(l), delta.Encode(l)
		fill(x)
		if !bytes.Equal(y, modelEncode(l)) {
			t.Fatalf("answers of Encode share memory: % x", y)
		}
	}
}

// P6: calls at the same time have nothing to do with one another.
func TestAtTheSameTime(t *testing.T) {
	base := row(0)
	l := []delta.Op{copied(0, 30), told("xyz"), copied(33, 31)}
	b := delta.Encode(l)
	var all sync.WaitGroup
	for i := range 8 {
		all.Add(1)
		go func() {
			defer all.Done()
			rnd := rand.New(rand.NewSource(int64(i)))
			for range 100 {
				one, two := anyPair(rnd)
				made, err := delta.Patch(one, delta.Diff(one, two))
				if err != nil || made != two {
					t.Errorf("% x by % x: % x, %v", two, one, made, err)
				}
				made, err = delta.Apply(base, l)
				again, errAgain := delta.Patch(base, b)
				if err != nil || errAgain != nil || made != again || made != with(base, 30, "xyz") {
					t.Errorf("% x, %v, % x, %v", made, err, again, errAgain)
				}
			}
		}()
	}
	all.Wait()
}
