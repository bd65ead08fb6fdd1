package index

import (
	"drydock/api"
	"drydock/mem"
	"drydock/merge"
)

// stack is entries ahead of tables, and these, the newest first: of a key the first that has it tells.
type stack struct {
	ahead  *mem.Mem
	tables []*shared
}

// get is a key's value.
func (s stack) get(key string) (string, bool) {
	e, there := s.ahead.Get(key)
	for i := 0; !there && i < len(s.tables); i++ {
		e, there = s.tables[i].get(key)
	}
	if !there || e.Gone {
		return "", false
	}
	return e.Value, true
}

// between are the entries with keys from one on, up to another one, without those that are gone.
func (s stack) between(from, to string) []api.Entry {
	orders := [][]api.Entry{s.ahead.Range(from, to)}
	for _, t := range s.tables {
		orders = append(orders, t.between(from, to))
	}
	// each is in order, so that there is no error
	all, _ := merge.All(orders, true)
	return all
}

// View is what an index has at a moment; one that is released has nothing.
type View struct{ has stack }

// View holds what the index has now.
func (x *Index) View() *View {
	if x == nil {
		return nil
	}
	v := &View{x.all()}
	// tables never change, but what is ahead of them does
	v.has.ahead = copied(x.ahead)
	for _, s := range v.has.tables {
		s.hold()
	}
	return v
}

// copied has the same entries, and goes its own way.
func copied(m *mem.Mem) *mem.Mem {
	other := mem.New()
	for _, e := range m.Entries() {
		other.Put(e)
	}
	return other
}

// Get is a key's value, as it was.
func (v *View) Get(key string) (string, bool) { return v.all().get(key) }

// Range are the entries, as they were.
func (v *View) Range(from, to string) []api.Entry { return v.all().between(from, to) }

// all is what the view has: a nil one has nothing.
func (v *View) all() stack {
	if v == nil {
		return stack{}
	}
	return v.has
}

// Release lets go what a view holds.
func (v *View) Release() {
	if v == nil {
		return
	}
	for _, s := range v.has.tables {
		s.letGo()
	}
	v.has = stack{}
}
