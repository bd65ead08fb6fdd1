package delta_test

import (
	"bytes"
	"math/rand"
	"slices"
	"strings"
	"testing"

	"drydock/api"
	"drydock/delta"
)

// wantDiff checks a block's parts as bytes.
func wantDiff(t *testing.T, base, target api.Block, want []byte) {
	t.Helper()
	if got := delta.Diff(base, target); !bytes.Equal(got, want) {
		t.Fatalf("Diff of\n% x by\n% x:\n% x, want\n% x", target, base, got, want)
	}
}

// wantPatch checks the block that bytes make, or the error.
func wantPatch(t *testing.T, base api.Block, b []byte, want api.Block, errno api.Errno) {
	t.Helper()
	got, err := delta.Patch(base, b)
	wantErr(t, "Patch", err, errno)
	if got != want {
		t.Fatalf("Patch(% x, % x):\n% x, want\n% x", base, b, got, want)
	}
}

// DE3: differences that are known.
func TestDiff(t *testing.T) {
	base, other := row(0), row(100)
	wantDiff(t, base, base, []byte{1, 1, 0, 64})
	wantDiff(t, base, other, append([]byte{1, 0, 64}, other[:]...))
	wantDiff(t, base, with(base, 30, "xyz"), []byte("\x03\x01\x00\x1e\x00\x03xyz\x01\x21\x1f"))
	wantDiff(t, base, with(base, 0, "x"), []byte("\x02\x00\x01x\x01\x01\x3f"))
	wantDiff(t, base, with(base, 63, "x"), []byte("\x02\x01\x00\x3f\x00\x01x"))
}

// DE3: a difference is Encode of Ops, of any blocks, as the model says.
func TestDiffOfAny(t *testing.T) {
	rnd := rand.New(rand.NewSource(7))
	for range 1000 {
		base, target := anyPair(rnd)
		wantDiff(t, base, target, modelEncode(modelOps(base, target)))
		wantDiff(t, base, target, delta.Encode(delta.Ops(base, target)))
	}
}

// DE3: of bytes that are no parts Decode's error is told, of parts that make no block Apply's, the first one.
func TestPatch(t *testing.T) {
	base := row(0)
	sixtyFour := strings.Repeat("a", 64)
	for _, c := range []struct {
		b     string
		want  api.Block
		errno api.Errno
	}{
		{"\x01\x01\x00\x40", base, 0},
		{"\x01\x00\x40" + sixtyFour, block(sixtyFour), 0},
		{"\x03\x01\x00\x1e\x00\x03xyz\x01\x21\x1f", with(base, 30, "xyz"), 0},
		{"\x02\x00\x01a\x00\x3f" + sixtyFour[1:], block(sixtyFour), 0}, // told in two parts, as Ops never does
		{"\x40" + strings.Repeat("\x01\x05\x01", 64), block(strings.Repeat("\x05", 64)), 0},
		{"", api.Block{}, api.ErrForm},
		{"\x01", api.Block{}, api.ErrForm},
		{"\x01\x01\x00\x40\x00", api.Block{}, api.ErrForm},
		{"\x41" + strings.Repeat("\x01\x05\x01", 65), api.Block{}, api.ErrForm},
		{"\x01\x01\x41\x01", api.Block{}, api.ErrForm},
		{"\x01\x01\x00\x41", api.Block{}, api.ErrForm},
		{"\x01\x00\x41a" + sixtyFour, api.Block{}, api.ErrForm},
		{"\x02\x01\x3f\x02\x00\x02a", api.Block{}, api.ErrForm}, // a copy from behind, and bytes that end early
		{"\x01\x00\x00", api.Block{}, api.ErrForm},
		{"\x01\x01\x40\x01", api.Block{}, api.ErrRange},
		{"\x01\x01\x3f\x02", api.Block{}, api.ErrRange},
		{"\x01\x01\x00\x00", api.Block{}, api.ErrRange},
		{"\x02\x01\x3f\x02\x00\x00", api.Block{}, api.ErrRange},
		{"\x02\x00\x00\x01\x3f\x02", api.Block{}, api.ErrForm},
		{"\x00", api.Block{}, api.ErrLong},
		{"\x01\x01\x00\x3f", api.Block{}, api.ErrLong},
		{"\x02\x01\x00\x40\x00\x01a", api.Block{}, api.ErrLong},
		{"\x03\x01\x00\x40\x00\x01a\x00\x00", api.Block{}, api.ErrLong},
		{"\x03\x01\x00\x40\x00\x01a\x00\x01", api.Block{}, api.ErrForm},
	} {
		wantPatch(t, base, []byte(c.b), c.want, c.errno)
	}
	wantPatch(t, base, nil, api.Block{}, api.ErrForm)
}

// DE3: any bytes that are near parts make what the model says of them.
func TestPatchOfAny(t *testing.T) {
	rnd := rand.New(rand.NewSource(8))
	seen := [5]int{}
	for range 10000 {
		base := anyBlock(rnd, 256)
		b := modelEncode(anyWrongParts(rnd))
		if rnd.Intn(4) == 0 {
			b[rnd.Intn(min(len(b), 6))] = byte(rnd.Intn(67))
		}
		var want api.Block
		errno := api.ErrForm
		if l, ok := modelDecode(b); ok {
			want, errno = modelApply(base, l)
		}
		seen[errno]++
		wantPatch(t, base, b, want, errno)
	}
	for _, errno := range []api.Errno{0, api.ErrLong, api.ErrForm, api.ErrRange} {
		if seen[errno] < 200 {
			t.Errorf("so few of %d: %d", errno, seen[errno])
		}
	}
}

// wantBack checks that a block's difference makes it again, as bytes and as parts.
func wantBack(t *testing.T, base, target api.Block) {
	t.Helper()
	b := delta.Diff(base, target)
	wantPatch(t, base, b, target, 0)
	l := delta.Ops(base, target)
	wantApply(t, base, l, target, 0)
	wantDecode(t, b, l)
	wantEncode(t, l, b)
}

// DE4: by any base a block is made again: by itself, by noughts, by one byte more or less, and by one that shares nothing.
func TestThereAndBack(t *testing.T) {
	blocks := []api.Block{{}, row(0), row(1), row(100), row(255), block("a"), block(strings.Repeat("ab", 32)), block(strings.Repeat("abc", 21)), with(api.Block{}, 63, "a")}
	for _, base := range blocks {
		for _, target := range blocks {
			wantBack(t, base, target)
		}
	}
	rnd := rand.New(rand.NewSource(9))
	for range 3000 {
		base, target := anyPair(rnd)
		wantBack(t, base, target)
		wantBack(t, target, base)
	}
}

// DE4: a block that is moved, and one with any one byte or piece of another one, is made again.
func TestThereAndBackOfPieces(t *testing.T) {
	base, other := row(0), row(100)
	for at := range size {
		wantBack(t, base, with(base, at, "x"))
		wantBack(t, base, block(string(base[at:])+string(other[:at])))
		wantBack(t, base, block(string(other[at:])+string(base[:at])))
		wantBack(t, base, block(string(base[at:])+string(base[:at])))
		for n := range size - at {
			wantBack(t, base, with(other, at, string(base[:n])))
			wantBack(t, other, with(other, at, string(base[n:])))
		}
	}
}

// DE4: as many parts as there can be, and as many bytes as a difference can have, are taken off again.
func TestThereAndBackOfManyParts(t *testing.T) {
	base := row(0)
	var l []string
	for at := range 12 { // a byte that is told, and four that are copied
		l = append(l, "x", string(base[5*at:][:4]))
	}
	target := block(strings.Join(l, "") + "yyyy")
	if got := len(delta.Ops(base, target)); got != 25 {
		t.Errorf("%d parts", got)
	}
	wantBack(t, base, target)
	wantDiff(t, base, target, slices.Concat([]byte{25}, manyParts(), []byte("\x00\x04yyyy")))
}

// manyParts are the bytes of twelve times a byte that is told and four that are copied.
func manyParts() []byte {
	var b []byte
	for at := range 12 {
		b = append(b, 0, 1, 'x', 1, byte(5*at), 4)
	}
	return b
}
