package index

import (
	"math"

	"drydock/api"
	"drydock/horner"
	"drydock/pack"
)

const (
	mostBytes  = 1 << 22
	mostLevels = 32
	mostTables = 1 << 10 // of a level
)

// Encode is an index as bytes.
func (x *Index) Encode() ([]byte, error) {
	if x == nil {
		return nil, api.ErrArg
	}
	w := pack.New().Int(x.config.Mem).Int(x.config.Fan).Int(x.config.Part).Int(x.config.Bits)
	w.Uint(uint64(x.ahead.Len()))
	for _, e := range x.ahead.Entries() {
		w.Text(e.Key).Bool(e.Gone).Text(e.Value)
	}
	w.Uint(uint64(len(x.levels)))
	for _, level := range x.levels {
		w.Uint(uint64(len(level)))
		for _, s := range level {
			w.Bytes(s.bytes)
		}
	}
	b := horner.Seal(w.Done())
	if len(b) > mostBytes {
		return nil, api.ErrLong
	}
	return b, nil
}

// Decode is the index of bytes.
func Decode(b []byte) (*Index, error) {
	text, err := horner.Open(b)
	if err != nil {
		return nil, err
	}
	r := pack.Read(text)
	x, err := New(Config{Mem: r.Int(), Fan: r.Int(), Part: r.Int(), Bits: r.Int()})
	if err != nil || !x.takeAhead(r) || !x.takeLevels(r) || r.Done() != nil {
		return nil, api.ErrForm
	}
	return x, nil
}

// takeAhead takes the entries ahead of the tables off; whether Put and Drop could have laid them in.
func (x *Index) takeAhead(r *pack.Reader) bool {
	last := ""
	for i := range r.Count(x.config.Mem) {
		e := api.Entry{Key: r.Text(mostEntry), Gone: r.Bool(), Value: r.Text(mostEntry)}
		if i > 0 && e.Key <= last || tooLong(e) || e.Gone && e.Value != "" {
			return false
		}
		last = e.Key
		x.ahead.Put(e)
	}
	return true
}

// takeLevels takes the levels off; whether they can be.
func (x *Index) takeLevels(r *pack.Reader) bool {
	for range r.Count(mostLevels) {
		level, formed := x.takeTables(r)
		if !formed {
			return false
		}
		x.levels = append(x.levels, level)
	}
	n := len(x.levels)
	return n == 0 || len(x.levels[n-1]) > 0
}

// takeTables takes a level's tables off; whether each is one, its parts too.
func (x *Index) takeTables(r *pack.Reader) ([]*shared, bool) {
	var level []*shared
	for range r.Count(mostTables) {
		s, err := x.open(r.Bytes(math.MaxInt))
		if err != nil {
			return nil, false
		}
		if _, err = s.table.Entries(); err != nil {
			return nil, false
		}
		level = append(level, s)
	}
	return level, true
}
