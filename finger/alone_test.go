package finger_test

import (
	"math/rand"
	"slices"
	"testing"

	"drydock/api"
	"drydock/finger"
)

// P6: every call ends and none panics, whatever it is given.
func TestTotal(t *testing.T) {
	rnd := rand.New(rand.NewSource(9))
	blocks := []api.Block{{}, row(255, 0), row(0, 1), anyBlock(rnd)}
	prints := []api.Print{{}, {31: 255}, anyPrint(rnd)}
	for _, b := range blocks {
		for _, kind := range slices.Concat(kinds, noKinds) {
			p, _ := finger.Of(kind, b)
			prints = append(prints, p)
		}
	}
	for _, p := range prints {
		finger.Text(p)
		finger.Key(p)
		for _, q := range prints {
			finger.Less(p, q)
		}
	}
}

// P6: the same call answers the same, whatever was asked between, and arguments stay as they were.
func TestSameAgain(t *testing.T) {
	rnd := rand.New(rand.NewSource(10))
	for _, c := range known {
		b, q := c.b, anyPrint(rnd)
		p := of(t, finger.Strong, b)
		was := p
		text, key, less := finger.Text(p), finger.Key(p), finger.Less(p, q)
		for _, kind := range slices.Concat(kinds, noKinds) {
			finger.Of(kind, b)
			finger.Of(kind, anyBlock(rnd))
			finger.Text(q)
			finger.Key(q)
			finger.Less(q, p)
			if p != was || b != c.b || of(t, finger.Strong, b) != p || finger.Text(p) != text || finger.Key(p) != key || finger.Less(p, q) != less {
				t.Fatalf("behind Of(%d): another answer, or another argument", kind)
			}
		}
	}
}

// P6: an answer shares no memory with the argument, nor with another answer.
func TestAnswersAlone(t *testing.T) {
	for _, kind := range kinds {
		b := row(1, 3)
		one, two := of(t, kind, b), of(t, kind, b)
		want, key := two, finger.Key(two)
		clear(one[:])
		clear(b[:])
		if two != want {
			t.Errorf("Of(%d) shares memory: %x, was %x", kind, two, want)
		}
		clear(two[:])
		if key != finger.Key(want) {
			t.Errorf("Key shares memory with its argument: %x", key)
		}
	}
}
