package keccak_test

import (
	"bytes"
	"math/rand"
	"slices"
	"testing"

	"drydock/api"
	"drydock/keccak"
)

// wantSum checks that a state's sum is that of all that was written.
func wantSum(t *testing.T, s *keccak.State, all []byte) {
	t.Helper()
	if got := s.Sum(); got != keccak.Sum(all) {
		t.Fatalf("of % x: %x, want %s", all, got, sumOf(all))
	}
}

// KE2: a new one has the sum of no bytes; then that of all that were written, one behind the other, as it is known.
func TestState(t *testing.T) {
	s := keccak.New()
	if s == nil {
		t.Fatal("New: nil")
	}
	for _, step := range []struct{ more, sum string }{
		{"", "a7ffc6f8bf1ed76651c14756a061d662f580ff4de43b49fa82d80a4b80f8434a"},
		{"a", "80084bf2fba02475726feb2cab2d8215eab14bc6bdd8bfb2c8151257032ecd8b"},
		{"", "80084bf2fba02475726feb2cab2d8215eab14bc6bdd8bfb2c8151257032ecd8b"},
		{"bc", "3a985da74fe225b2045c172d6bd390bd855f086e3e9d525b46bfe24511431532"},
	} {
		s.Write([]byte(step.more))
		for range 3 {
			if h := s.Sum(); hex(h[:]) != step.sum {
				t.Errorf("behind %q: %x, want %s", step.more, h, step.sum)
			}
		}
	}
	other := keccak.New()
	other.Write(nil)
	wantSum(t, other, nil)
}

// KE2: all known sums, of what is written at once.
func TestStateKnown(t *testing.T) {
	for _, c := range known {
		s := keccak.New()
		s.Write(bytes.Repeat([]byte("a"), c.size))
		if h := s.Sum(); hex(h[:]) != c.sum {
			t.Errorf("%d bytes: %x, want %s", c.size, h, c.sum)
		}
	}
}

// KE2: a sum that is asked behind each byte, and again, changes none behind it, at no size.
func TestSumBehindEachByte(t *testing.T) {
	all := anyBytes(rand.New(rand.NewSource(3)), 3*rate+2)
	s := keccak.New()
	for i := range all {
		wantSum(t, s, all[:i])
		s.Write(all[i : i+1])
		wantSum(t, s, all[:i+1])
	}
}

// KE2: of a nil one the sum is noughts, and stays it, whatever is written.
func TestNilState(t *testing.T) {
	var s *keccak.State
	for _, b := range [][]byte{nil, {}, []byte("abc"), make([]byte, rate), make([]byte, 3*rate)} {
		s.Write(b)
		if s.Sum() != (api.Print{}) {
			t.Errorf("behind %d bytes: %x", len(b), s.Sum())
		}
	}
}

// KE2: two states are two: what is written to one is not in the other.
func TestStatesAlone(t *testing.T) {
	rnd := rand.New(rand.NewSource(4))
	states := []*keccak.State{keccak.New(), keccak.New(), keccak.New()}
	all := make([][]byte, len(states))
	for range 300 {
		i := rnd.Intn(len(states))
		b := anyBytes(rnd, rnd.Intn(100))
		states[i].Write(b)
		all[i] = append(all[i], b...)
		for j, s := range states {
			wantSum(t, s, all[j])
		}
	}
}

// KE3: a text cut at any two places has the sum that it has whole.
func TestCuts(t *testing.T) {
	all := anyBytes(rand.New(rand.NewSource(5)), 2*rate+1)
	whole := keccak.Sum(all)
	for i := range len(all) + 1 {
		for j := i; j <= len(all); j++ {
			s := keccak.New()
			for _, part := range [][]byte{all[:i], all[i:j], all[j:]} {
				s.Write(part)
			}
			if s.Sum() != whole {
				t.Fatalf("cut at %d and at %d: %x, want %x", i, j, s.Sum(), whole)
			}
		}
	}
}

// KE3: pieces of one size, of whatever size, and asked between or not: the sum is the same, and that of the model.
func TestPieces(t *testing.T) {
	all := anyBytes(rand.New(rand.NewSource(6)), 5*rate)
	want := told.comes(all, 6, printSize)
	for size := 1; size <= len(all); size++ {
		silent, asked := keccak.New(), keccak.New()
		for part := range slices.Chunk(all, size) {
			silent.Write(part)
			asked.Write(part)
			asked.Sum()
		}
		if h := silent.Sum(); !bytes.Equal(h[:], want) {
			t.Fatalf("pieces of %d: %x, want %x", size, h, want)
		}
		if h := asked.Sum(); !bytes.Equal(h[:], want) {
			t.Fatalf("pieces of %d, asked between: %x, want %x", size, h, want)
		}
	}
}

// KE3: long texts, cut into pieces of any sizes, the sum asked now and then.
func TestAnyCuts(t *testing.T) {
	rnd := rand.New(rand.NewSource(7))
	for range 50 {
		s := keccak.New()
		var all []byte
		for len(all) < 5000 {
			b := anyBytes(rnd, rnd.Intn(1+rnd.Intn(4*rate)))
			s.Write(b)
			all = append(all, b...)
			if rnd.Intn(4) == 0 {
				wantSum(t, s, all)
			}
		}
		wantSum(t, s, all)
	}
	long := anyBytes(rnd, longest+1)
	s := keccak.New()
	s.Write(long[:longest-1])
	s.Write(long[longest-1:])
	wantSum(t, s, long)
}

// KE3: a shorter shake is the begin of a longer one.
func TestShakeBegins(t *testing.T) {
	rnd := rand.New(rand.NewSource(8))
	for _, size := range []int{0, 1, rate - 1, rate, rate + 1, 1000} {
		b := anyBytes(rnd, size)
		long := shakeOf(t, b, longest)
		sizes := []int{longest - 1, longest - rate, longest / 2, longest/2 + 1}
		for n := range 4 * rate {
			sizes = append(sizes, n)
		}
		for _, n := range sizes {
			if got := shakeOf(t, b, n); !bytes.Equal(got, long[:n]) {
				t.Fatalf("of %d bytes %d come out, which are no begin", size, n)
			}
		}
	}
}
