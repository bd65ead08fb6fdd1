package index

import (
	"slices"

	"drydock/api"
	"drydock/merge"
)

// Job merges a level into the next one, step by step.
type Job struct {
	index  *Index // nil when it is done
	level  int
	inputs []*shared
	left   *merge.Reader // of the inputs' entries
	drop   bool          // no table lies behind, of which an entry that is gone could hide one
	taken  []api.Entry
}

// Compact begins to merge a level that has too many tables.
func (x *Index) Compact() (*Job, error) {
	if x == nil {
		return nil, api.ErrArg
	}
	if x.merging {
		return nil, api.ErrLock
	}
	at := slices.IndexFunc(x.levels, func(l []*shared) bool { return len(l) > x.config.Fan })
	if at < 0 {
		return nil, api.ErrNone
	}
	behind := min(at+2, len(x.levels))
	j := &Job{index: x, level: at, inputs: slices.Concat(x.levels[at:behind]...), drop: behind == len(x.levels)}
	var err error
	if j.left, err = readerOf(j.inputs); err != nil {
		return nil, err
	}
	x.merging = true
	return j, nil
}

// readerOf goes over the entries of tables, the newest first.
func readerOf(tables []*shared) (*merge.Reader, error) {
	var orders [][]api.Entry
	for _, s := range tables {
		l, err := s.table.Entries()
		if err != nil {
			return nil, err
		}
		orders = append(orders, l)
	}
	return merge.New(orders)
}

// Step takes so many entries further; whether it is done.
func (j *Job) Step(n int) (bool, error) {
	if j == nil || n < 1 {
		return false, api.ErrArg
	}
	if j.index == nil {
		return true, nil
	}
	for range n {
		e, there := j.next()
		if !there {
			err := j.end()
			return err == nil, err
		}
		j.taken = append(j.taken, e)
	}
	return false, nil
}

// next is the next entry to be taken.
func (j *Job) next() (api.Entry, bool) {
	e, there := j.left.Next()
	for there && e.Gone && j.drop {
		e, there = j.left.Next()
	}
	return e, there
}

// end lays what was taken in place of the inputs. The job is done, even if what was taken is too much for a table.
func (j *Job) end() error {
	done := *j
	*j = Job{}
	done.index.merging = false
	var made []*shared
	if len(done.taken) > 0 {
		s, err := done.index.build(done.taken)
		if err != nil {
			return err
		}
		made = append(made, s)
	}
	done.index.replace(done.level, done.inputs, made)
	return nil
}

// replace lays what was made of a level and the next one into the next one. What came to the level meanwhile stays.
func (x *Index) replace(level int, inputs, made []*shared) {
	if level+1 == len(x.levels) {
		x.levels = append(x.levels, nil)
	}
	x.levels[level] = slices.DeleteFunc(x.levels[level], func(s *shared) bool { return slices.Contains(inputs, s) })
	x.levels[level+1] = made
	for _, s := range inputs {
		s.letGo()
	}
	for n := len(x.levels); n > 0 && len(x.levels[n-1]) == 0; n-- {
		x.levels = x.levels[:n-1]
	}
}
