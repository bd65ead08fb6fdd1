package pack

import (
	"math"
	"math/bits"
	"slices"

	"drydock/api"
)

// spell is a number as bytes.
func spell(n uint64) []byte {
	k := 0
	for k < 8 && n>>(7*k+7) != 0 {
		k++
	}
	b := []byte{ones(k) | byte(n>>(8*k))}
	for k > 0 {
		k--
		b = append(b, byte(n>>(8*k)))
	}
	return b
}

// ones is a byte that begins with so many bits 1, from 0 to 8.
func ones(k int) byte { return ^(byte(255) >> k) }

// The rules below find a thing at the beginning of bytes, and answer it with the bytes behind it.

// number is one of at most so much.
func number(b []byte, most uint64) (uint64, []byte, error) {
	if len(b) == 0 {
		return 0, nil, api.ErrEnd
	}
	k := bits.LeadingZeros8(^b[0])
	if len(b)-1 < k {
		return 0, nil, api.ErrEnd
	}
	n := uint64(b[0] &^ ones(k))
	for _, c := range b[1 : 1+k] {
		n = n<<8 | uint64(c)
	}
	if k > 0 && n>>(7*k) == 0 {
		return 0, nil, api.ErrForm // one byte less would do
	}
	if n > most {
		return 0, nil, api.ErrRange
	}
	return n, b[1+k:], nil
}

// truth is one, or the first byte of an int: whether it is below 0.
func truth(b []byte) (bool, []byte, error) {
	if len(b) == 0 {
		return false, nil, api.ErrEnd
	}
	if b[0] > 1 {
		return false, nil, api.ErrForm
	}
	return b[0] == 1, b[1:], nil
}

// signed is a number that may be below 0.
func signed(b []byte) (int, []byte, error) {
	below, b, err := truth(b)
	if err != nil {
		return 0, nil, err
	}
	n, b, err := number(b, math.MaxInt64)
	if err != nil {
		return 0, nil, err
	}
	if below {
		return -1 - int(n), b, nil
	}
	return int(n), b, nil
}

// count is a number of at most so much, and of what may stand behind it.
func count(b []byte, most int) (int, []byte, error) {
	n, b, err := number(b, uint64(max(most, 0)))
	if err != nil {
		return 0, nil, err
	}
	if n > uint64(len(b)) {
		return 0, nil, api.ErrLong
	}
	return int(n), b, nil
}

// text is the bytes of one of at most so many.
func text(b []byte, most int) ([]byte, []byte, error) {
	if most < 0 {
		return nil, nil, api.ErrArg
	}
	n, b, err := number(b, math.MaxUint64)
	if err != nil {
		return nil, nil, err
	}
	if n > uint64(most) {
		return nil, nil, api.ErrLong
	}
	if n > uint64(len(b)) {
		return nil, nil, api.ErrEnd
	}
	return slices.Clone(b[:n]), b[n:], nil
}

// sum is a print.
func sum(b []byte) (api.Print, []byte, error) {
	var h api.Print
	n := copy(h[:], b)
	if n < len(h) {
		return api.Print{}, nil, api.ErrEnd
	}
	return h, b[n:], nil
}
