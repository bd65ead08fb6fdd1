package delta_test

import (
	"bytes"
	"encoding/binary"
	"errors"
	"math/big"
	"math/rand"
	"slices"
	"testing"

	"drydock/api"
	"drydock/delta"
)

const (
	size  = 64 // bytes of a block
	worth = 4  // bytes of a match that is copied at least
	most  = 64 // parts that bytes tell at most
)

// modelMatch is a match, told without the program: of the longest texts that the block goes on with, the first place of the base that has it.
func modelMatch(base, target api.Block, at int) (int, int) {
	if at < 0 || at > size-1 {
		return 0, 0
	}
	for n := size - at; n > 0; n-- {
		if from := bytes.Index(base[:], target[at:at+n]); from >= 0 {
			return from, n
		}
	}
	return 0, 0
}

// modelOps are a block's parts, told without the program: copies first, and what is between them told.
func modelOps(base, target api.Block) []delta.Op {
	var l []delta.Op
	told := 0 // from where on bytes are told
	for at := 0; at <= size; at++ {
		from, n := modelMatch(base, target, at)
		if n < worth && at < size {
			continue
		}
		if told < at {
			l = append(l, delta.Op{Bytes: target[told:at]})
		}
		if at < size {
			l = append(l, delta.Op{Copy: true, From: from, Len: n})
		}
		told = at + n
		at += n - 1
		if told == size {
			break
		}
	}
	return l
}

// modelNumber is a number as bytes, told by its bits.
func modelNumber(n uint64) []byte {
	var whole [8]byte
	binary.BigEndian.PutUint64(whole[:], n)
	bits := max(1, new(big.Int).SetUint64(n).BitLen())
	k := (bits - 1) / 7
	if k >= 8 {
		return append([]byte{255}, whole[:]...)
	}
	b := slices.Clone(whole[7-k:])
	b[0] |= []byte{0, 0x80, 0xc0, 0xe0, 0xf0, 0xf8, 0xfc, 0xfe}[k]
	return b
}

// modelEncode are parts as bytes, told without the program.
func modelEncode(l []delta.Op) []byte {
	b := modelNumber(uint64(len(l)))
	for _, o := range l {
		part := slices.Concat([]byte{0}, modelNumber(uint64(len(o.Bytes))), o.Bytes)
		if o.Copy {
			part = slices.Concat([]byte{1}, modelNumber(uint64(o.From)), modelNumber(uint64(o.Len)))
		}
		b = append(b, part...)
	}
	return b
}

// modelDecode are the parts of bytes, told without the program; false, where they are none. Every number of the form is below 128: a byte.
func modelDecode(b []byte) ([]delta.Op, bool) {
	if len(b) == 0 || b[0] > most {
		return nil, false
	}
	var l []delta.Op
	at := 1
	for range b[0] {
		switch {
		case len(b) >= at+3 && b[at] == 1 && b[at+1] <= size && b[at+2] <= size:
			l = append(l, delta.Op{Copy: true, From: int(b[at+1]), Len: int(b[at+2])})
			at += 3
		case len(b) >= at+2 && b[at] == 0 && b[at+1] <= size && len(b) >= at+2+int(b[at+1]):
			l = append(l, delta.Op{Bytes: b[at+2 : at+2+int(b[at+1])]})
			at += 2 + int(b[at+1])
		default:
			return nil, false
		}
	}
	return l, at == len(b)
}

// inside tells whether so many bytes from a place on stand in a block, reckoned in numbers of any size.
func inside(from, n int) bool {
	end := new(big.Int).Add(big.NewInt(int64(from)), big.NewInt(int64(n)))
	return from >= 0 && n >= 1 && end.Cmp(big.NewInt(size)) <= 0
}

// modelApply is what parts make of a base, told without the program: each part's own fault, ahead of what comes of all up to it.
func modelApply(base api.Block, l []delta.Op) (api.Block, api.Errno) {
	var made []byte
	for _, o := range l {
		if o.Copy && !inside(o.From, o.Len) {
			return api.Block{}, api.ErrRange
		}
		if !o.Copy && len(o.Bytes) == 0 {
			return api.Block{}, api.ErrForm
		}
		if o.Copy {
			made = slices.Concat(made, base[o.From:][:o.Len])
		} else {
			made = slices.Concat(made, o.Bytes)
		}
		if len(made) > size {
			return api.Block{}, api.ErrLong
		}
	}
	if len(made) != size {
		return api.Block{}, api.ErrLong
	}
	return api.Block(made), 0
}

// wantErr checks which error came, by its number; 0 is none.
func wantErr(t *testing.T, what string, err error, want api.Errno) {
	t.Helper()
	var got api.Errno
	if err != nil && !errors.As(err, &got) {
		t.Fatalf("%s: an error without a number: %v", what, err)
	}
	if got != want {
		t.Fatalf("%s: error %d, want %d", what, got, want)
	}
}

// same tells whether parts are alike, field by field; no bytes are nil bytes.
func same(a, b []delta.Op) bool {
	return slices.EqualFunc(a, b, func(a, b delta.Op) bool {
		return a.Copy == b.Copy && a.From == b.From && a.Len == b.Len && bytes.Equal(a.Bytes, b.Bytes)
	})
}

// copied is a part that copies.
func copied(from, n int) delta.Op { return delta.Op{Copy: true, From: from, Len: n} }

// told is a part that is told.
func told(s string) delta.Op { return delta.Op{Bytes: []byte(s)} }

// block are these bytes, and noughts behind.
func block(s string) api.Block {
	var b api.Block
	copy(b[:], s)
	return b
}

// row is a block whose bytes go on from a first one.
func row(first byte) api.Block {
	var b api.Block
	for i := range b {
		b[i] = first + byte(i)
	}
	return b
}

// with is a block with other bytes from a place on, as many as have room there.
func with(b api.Block, at int, s string) api.Block {
	copy(b[at:], s)
	return b
}

// anyBytes are so many, of so many kinds, picked by rnd.
func anyBytes(rnd *rand.Rand, n, kinds int) []byte {
	b := make([]byte, n)
	for i := range b {
		b[i] = byte(rnd.Intn(kinds))
	}
	return b
}

// anyBlock is one of so many kinds of bytes: the fewer, the more and the longer are the matches.
func anyBlock(rnd *rand.Rand, kinds int) api.Block { return api.Block(anyBytes(rnd, size, kinds)) }

// near is a block that is made of pieces of another one, with some other bytes between.
func near(rnd *rand.Rand, base api.Block) api.Block {
	var b []byte
	for len(b) < size {
		from := rnd.Intn(size)
		b = append(b, base[from:from+1+rnd.Intn(size-from)]...)
		b = append(b, anyBytes(rnd, rnd.Intn(6), 256)...)
	}
	return api.Block(b[:size])
}

// anyPair are a base and a block, of all kinds from one that is nothing like it to itself.
func anyPair(rnd *rand.Rand) (api.Block, api.Block) {
	base := anyBlock(rnd, 1+rnd.Intn(256))
	switch rnd.Intn(4) {
	case 0:
		return base, anyBlock(rnd, 1+rnd.Intn(256))
	case 1:
		kinds := 1 + rnd.Intn(6)
		return anyBlock(rnd, kinds), anyBlock(rnd, kinds)
	case 2:
		target := base
		for range rnd.Intn(5) {
			target[rnd.Intn(size)]++
		}
		return base, target
	}
	return base, near(rnd, base)
}
