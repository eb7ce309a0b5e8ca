package store

import (
	"slices"

	"surety/api"
)

// Link links the variable that is the root of v to the root of n.
func (s *Store) Link(v, n int) api.Errno {
	if !s.have(v, n) || s.Kind(v) != api.TVar || s.Root(v) == s.Root(n) {
		return api.ErrArg
	}
	v, n = s.Root(v), s.Root(n)
	vars := s.Vars(n)
	if slices.Contains(vars, v) {
		return api.ErrLoop
	}
	s.lower(vars, s.nodes[v].level)
	s.nodes[v].up = n
	return api.OK
}

// Lower lowers the levels of the variables within n.
func (s *Store) Lower(n, level int) api.Errno {
	if !s.have(n) || level < 0 {
		return api.ErrArg
	}
	s.lower(s.Vars(n), level)
	return api.OK
}

// lower lowers the levels of roots that are variables.
func (s *Store) lower(vars []int, level int) {
	for _, v := range vars {
		s.nodes[v].level = min(s.nodes[v].level, level)
	}
}
