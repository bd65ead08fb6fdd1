package index

import (
	"sort"
	"sync/atomic"

	"drydock/api"
	"drydock/table"
)

// shared is a table, and how many hold it: a level, and views. None of its parts has an error: the bytes are Build's own, or Decode has gone over all of them.
type shared struct {
	table   *table.Table
	bytes   []byte
	holders atomic.Int64
	held    *atomic.Int64 // how many tables of its index somebody holds
}

// build makes a table of entries, for a level.
func (x *Index) build(l []api.Entry) (*shared, error) {
	b, err := table.Build(l, x.config.Part, x.config.Bits)
	if err != nil {
		return nil, err
	}
	return x.open(b)
}

// open is the table of bytes, for a level.
func (x *Index) open(b []byte) (*shared, error) {
	t, err := table.Open(b)
	if err != nil {
		return nil, err
	}
	s := &shared{table: t, bytes: b, held: &x.held}
	s.hold()
	return s, nil
}

// hold tells of one more that holds it.
func (s *shared) hold() {
	if s.holders.Add(1) == 1 {
		s.held.Add(1)
	}
}

// letGo tells of one less that holds it.
func (s *shared) letGo() {
	if s.holders.Add(-1) == 0 {
		s.held.Add(-1)
	}
}

// get is a key's entry.
func (s *shared) get(key string) (api.Entry, bool) {
	e, there, _ := s.table.Get(key)
	return e, there
}

// between are the entries with keys from one on, up to another one (the empty key: to the end). Where to begin is found by halving, so that few parts are read.
func (s *shared) between(from, to string) []api.Entry {
	above := sort.Search(s.table.Parts(), func(i int) bool { return s.part(i)[0].Key > from })
	var l []api.Entry
	for i := max(above-1, 0); i < s.table.Parts(); i++ {
		for _, e := range s.part(i) {
			if to != "" && e.Key >= to {
				return l
			}
			if e.Key >= from {
				l = append(l, e)
			}
		}
	}
	return l
}

// part are the entries of a part, one at least.
func (s *shared) part(i int) []api.Entry {
	l, _ := s.table.Part(i)
	return l
}
