package gf

const (
	numbers = 256
	turn    = numbers - 1 // 2 multiplied so often is 1 again: each number but 0 came ahead of that
	divisor = 0x11d       // of the polynomials
)

// tables are the powers of 2, and which of them a number is.
type tables struct {
	powers [turn]byte
	logs   [numbers]byte // that of 0, which has none, is not asked for
}

// fill makes the tables.
func (t *tables) fill() {
	n := 1
	for i := range t.powers {
		t.powers[i], t.logs[n] = byte(n), byte(i)
		n *= 2
		if n >= numbers {
			n ^= divisor
		}
	}
}

// power is the power of 2.
func (t *tables) power(n int) byte { return t.powers[rest(n)] }

// log is which power of 2 a number is, that isn't 0.
func (t *tables) log(a byte) int { return int(t.logs[a]) }

// rest is what is left of a number by the powers' turn, from 0 on, of one below 0, too.
func rest(n int) int {
	n %= turn
	if n < 0 {
		n += turn
	}
	return n
}
