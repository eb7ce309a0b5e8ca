package store

import "surety/api"

// Copy returns a node of the type of n with nodes for variables.
func (s *Store) Copy(n int, from, to []int) (int, api.Errno) {
	copies, ok := s.replacements(from, to)
	if !ok || !s.have(n) {
		return 0, api.ErrArg
	}
	changed := s.changed(n, copies)
	if len(changed) > s.room() {
		return 0, api.ErrLimit
	}
	for _, root := range changed {
		x := s.nodes[root]
		for k := range arity(x.kind) {
			x.kids[k] = s.copyOf(x.kids[k], copies)
		}
		s.add(x)
	}
	return s.copyOf(n, copies), api.OK
}

// replacements returns what the roots of from are to be replaced by, if they are
// variables, each once, and there is a node for each.
func (s *Store) replacements(from, to []int) (map[int]int, bool) {
	if len(from) != len(to) || !s.have(from...) || !s.have(to...) {
		return nil, false
	}
	copies := map[int]int{}
	for k, v := range from {
		root := s.Root(v)
		if _, again := copies[root]; again || s.nodes[root].kind != api.TVar {
			return nil, false
		}
		copies[root] = to[k]
	}
	return copies, true
}

// changed returns the roots within n that are to be created anew, in the order
// in which this is done, and adds to copies the numbers that they will have.
func (s *Store) changed(n int, copies map[int]int) []int {
	var l []int
	for root := range s.roots(n) {
		for _, kid := range s.kids(root) {
			if _, ok := copies[s.Root(kid)]; ok {
				copies[root] = len(s.nodes) + len(l)
				l = append(l, root)
				break
			}
		}
	}
	return l
}

// copyOf returns what stands in the place of n, which is its root if nothing
// within n is replaced.
func (s *Store) copyOf(n int, copies map[int]int) int {
	root := s.Root(n)
	if copied, ok := copies[root]; ok {
		return copied
	}
	return root
}

// Read returns the type of n, and counts its nodes.
func (s *Store) Read(n int) (api.Type, api.Errno) {
	if !s.have(n) {
		return api.Type{}, api.ErrArg
	}
	type part struct {
		t    api.Type
		size int
	}
	// The parts of the type, for their roots. None is made that is too great.
	parts := map[int]part{}
	for root := range s.roots(n) {
		p := part{api.Type{Kind: s.nodes[root].kind}, 1}
		if p.t.Kind == api.TVar {
			p.t.N = root
		}
		for _, kid := range s.kids(root) {
			below := parts[s.Root(kid)]
			p.t.Kids = append(p.t.Kids, below.t)
			p.size += below.size
		}
		if p.size > s.room() {
			return api.Type{}, api.ErrLimit
		}
		parts[root] = p
	}
	whole := parts[s.Root(n)]
	s.count += whole.size
	return whole.t, api.OK
}
