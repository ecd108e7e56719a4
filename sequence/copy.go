package sequence

import (
	"iter"
	"maps"
	"slices"

	"riffle/api"
	"riffle/model"
)

// All goes over what would be done from here on, as it is now, whatever becomes of the sequence later. Each time that it is gone through, another copy does the steps.
func (s *Sequence) All() iter.Seq2[api.Event, []api.Record] {
	now := s.Copy()
	return func(yield func(api.Event, []api.Record) bool) {
		ahead := now.Copy()
		for ahead.Waits() > 0 {
			e, tells, _ := ahead.Step()
			if !yield(e, tells) {
				return
			}
		}
	}
}

// Copy is one that goes on apart. The model and the machines are had in common, since nothing ever changes them.
func (s *Sequence) Copy() *Sequence {
	if s.isNone() {
		return nil
	}
	c := *s
	c.states = slices.Clone(s.states)
	for i, state := range s.states {
		c.states[i] = model.CopyState(state)
	}
	c.waits = slices.Clone(s.waits)
	c.puts = maps.Clone(s.puts)
	return &c
}

// Same is whether both are the same in everything, by whichever steps they came to it.
func (s *Sequence) Same(o *Sequence) bool {
	if s.isNone() || o.isNone() {
		return s.isNone() && o.isNone()
	}
	return s.floor == o.floor && s.done == o.done &&
		slices.EqualFunc(s.states, o.states, model.SameState) &&
		slices.Equal(s.waits, o.waits) &&
		maps.Equal(s.puts, o.puts) &&
		model.Same(s.model, o.model)
}
