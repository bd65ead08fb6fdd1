package toggle_test

import (
	"math/rand"
	"testing"

	"drydock/api"
	"drydock/dev"
	"drydock/toggle"
)

// kinds are which of so many sectors are kept: all that there are.
func kinds(loose int) [][]bool {
	var all [][]bool
	for bits := range 1 << loose {
		kept := make([]bool, loose)
		for i := range kept {
			kept[i] = bits>>i&1 != 0
		}
		all = append(all, kept)
	}
	return all
}

// history saves texts, one behind the other, in an area of a new device.
func history(t *testing.T, a toggle.Area, texts []string) *dev.Dev {
	t.Helper()
	d := device(t, a.First+a.Sectors)
	for _, text := range texts {
		must(t, toggle.Save(d, a, []byte(text)))
	}
	return d
}

// wantOld checks that the last text of those is told, or that there is none.
func wantOld(t *testing.T, d *dev.Dev, a toggle.Area, texts []string) {
	t.Helper()
	if len(texts) == 0 {
		wantNoText(t, d, a, api.ErrNone)
		return
	}
	wantText(t, d, a, texts[len(texts)-1], uint64(len(texts)))
}

// crashSaving crashes a save behind so many writes, and starts the device anew; it tells whether the save was done.
func crashSaving(t *testing.T, d *dev.Dev, a toggle.Area, text string, writes int, kept func(loose int) []bool) bool {
	t.Helper()
	must(t, d.Arm(writes))
	err := toggle.Save(d, a, []byte(text))
	if err != nil {
		wantErr(t, "Save", err, api.ErrDown)
	}
	d.Start(kept(len(d.Loose())))
	return err == nil
}

// TG3: behind a crash after any count of writes, whichever sectors are kept, the old text is told; the new one once Save has answered nil.
func TestCrash(t *testing.T) {
	a := toggle.Area{First: 1, Sectors: 9}
	pasts := [][]string{nil, {""}, {"one"}, {letters(1, 256)}, {"one", letters(2, 130)}, {letters(1, 256), letters(2, 256), ""}}
	for _, past := range pasts {
		for _, length := range []int{0, 1, 64, 65, 200, 256} {
			text := letters(50, length)
			needed := (length + api.BlockSize - 1) / api.BlockSize
			for writes := range needed + 3 {
				for _, kept := range kinds(min(writes, 4)) {
					d := history(t, a, past)
					done := crashSaving(t, d, a, text, writes, func(int) []bool { return kept })
					if done != (writes > needed) {
						t.Fatalf("%d bytes, %d writes: done %v", length, writes, done)
					}
					now := past
					if done {
						now = append(past[:len(past):len(past)], text)
					}
					wantOld(t, d, a, now)
					must(t, toggle.Save(d, a, []byte("behind")))
					wantOld(t, d, a, append(now[:len(now):len(now)], "behind"))
					if t.Failed() {
						t.Fatalf("%d texts, %d bytes, %d writes, kept %v", len(past), length, writes, kept)
					}
				}
			}
		}
	}
}

// TG3: a text that was saved is there behind every restart, nothing of what is loose kept.
func TestSavedStays(t *testing.T) {
	a := toggle.Area{First: 0, Sectors: 9}
	var texts []string
	d := device(t, 12)
	for i, length := range lengths {
		texts = append(texts, letters(i, length))
		must(t, toggle.Save(d, a, []byte(texts[i])))
		must(t, d.Write(10, []byte("elsewhere")))
		for range 2 {
			d.Start(nil)
			wantOld(t, d, a, texts)
		}
	}
}

// TG3: saves that crash, one behind the other, again and again, in two areas of one device, never spoil what was there.
func TestCrashesFollow(t *testing.T) {
	for seed := range int64(300) {
		r := rand.New(rand.NewSource(seed))
		areas := []toggle.Area{{0, 3 + r.Intn(10)}}
		areas = append(areas, toggle.Area{First: areas[0].Sectors, Sectors: 3 + r.Intn(10)})
		d := device(t, areas[1].First+areas[1].Sectors)
		texts := [2][]string{}
		for step := range 60 {
			i := r.Intn(2)
			text := letters(step, r.Intn(toggle.Room(areas[i])+1))
			if crashSaving(t, d, areas[i], text, r.Intn(9), func(loose int) []bool {
				all := kinds(loose)
				return all[r.Intn(len(all))]
			}) {
				texts[i] = append(texts[i], text)
			}
			for i, a := range areas {
				wantOld(t, d, a, texts[i])
			}
			if t.Failed() {
				t.Fatalf("seed %d, step %d", seed, step)
			}
		}
	}
}

// TG3: a lost device tells no text any more; one in its place has none, and its first text is number 1.
func TestLost(t *testing.T) {
	a := toggle.Area{First: 0, Sectors: 9}
	d := history(t, a, []string{"one", "two"})
	d.Lose()
	wantNoText(t, d, a, api.ErrDown)
	d.Start([]bool{true})
	wantNoText(t, d, a, api.ErrDown)
	d.Replace()
	wantNoText(t, d, a, api.ErrNone)
	must(t, toggle.Save(d, a, []byte("three")))
	wantText(t, d, a, "three", 1)
	wantSector(t, d, 1, "three")
}
