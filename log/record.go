package log

import (
	"bytes"

	"drydock/horner"
	"drydock/pack"
)

const (
	lastNumber = 1 << 40
	mostData   = 1 << 16 // bytes of a record's data
)

// isNumber tells whether a record can have a number.
func isNumber(seq int) bool { return seq >= 1 && seq <= lastNumber }

// Need is how many sectors a record takes.
func Need(n, seq int) int {
	if n < 0 || n > mostData || !isNumber(seq) {
		return 0
	}
	// Bytes lays how many there are, and then they
	beside := horner.Seal(pack.New().Uint(uint64(seq)).Uint(uint64(n)).Done())
	return (len(beside) + n + room - 1) / room
}

// spell is a record's bytes.
func spell(seq int, data []byte) []byte {
	return horner.Seal(pack.New().Uint(uint64(seq)).Bytes(data).Done())
}

// tell is the data of the record with a number, if bytes begin with that record's.
func tell(b []byte, seq int) ([]byte, bool) {
	r := pack.Read(b)
	r.Uint(lastNumber)
	data := r.Bytes(mostData)
	if r.Err() != nil || !bytes.HasPrefix(b, spell(seq, data)) {
		return nil, false
	}
	return data, true
}
