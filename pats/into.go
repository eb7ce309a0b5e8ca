package pats

import (
	"surety/api"
	"surety/solve"
	"surety/store"
	"surety/tree"
)

// Into makes the node n agree with p, and returns the names in p with their nodes.
func Into(s *store.Store, p api.Pat, n, level int) (names []string, nodes []int, bad api.Bad, e api.Errno) {
	if tree.CheckPat(p) != api.OK || s.Root(n) == -1 || level < 0 {
		return nil, nil, api.Bad{}, api.ErrArg
	}
	open := parts[int]{{&p, n}}
	for len(open) > 0 {
		next := open.pop()
		switch next.p.Kind {
		case api.PAny:
			continue
		case api.PName:
			names = append(names, next.p.Name)
			nodes = append(nodes, next.has)
			continue
		}
		kids, bad, e := shape(s, next.p, next.has, level)
		if e != api.OK {
			return nil, nil, bad, e
		}
		open.push(next.p.Kids, kids)
	}
	return names, nodes, api.Bad{}, api.OK
}

// shape makes the node n agree with p, whatever the kids of p are, and returns
// the nodes that are to agree with these.
func shape(s *store.Store, p *api.Pat, n, level int) (kids []int, bad api.Bad, e api.Errno) {
	m, kids, e := create(s, p.Kind, level)
	if e != api.OK {
		return nil, api.Bad{}, e
	}
	left, right, e := solve.Agree(s, n, m)
	switch e {
	case api.OK:
		return kids, api.Bad{}, api.OK
	case api.ErrLimit:
		return nil, api.Bad{}, e
	}
	return nil, api.Bad{At: p.At, Why: e, Left: left, Right: right}, e
}

// create returns the node of what a pattern of a kind fits, whatever its kids
// are, and the nodes for its kids.
func create(s *store.Store, kind, level int) (m int, kids []int, e api.Errno) {
	switch kind {
	case api.PPair:
		return createPair(s, level)
	case api.PNil, api.PCons:
		return createList(s, level)
	}
	// The base types are the first nodes of every store, in the order of their kinds.
	return base(kind) - api.TInt, nil, api.OK
}

// createPair creates a pair of two variables, which are for the kids of a PPair.
func createPair(s *store.Store, level int) (m int, kids []int, e api.Errno) {
	first, e := s.Var(level)
	if e != api.OK {
		return 0, nil, e
	}
	second, e := s.Var(level)
	if e != api.OK {
		return 0, nil, e
	}
	m, e = s.Make(api.TPair, first, second)
	return m, []int{first, second}, e
}

// createList creates a list of a variable, both of which are for the kids of a
// PCons.
func createList(s *store.Store, level int) (m int, kids []int, e api.Errno) {
	first, e := s.Var(level)
	if e != api.OK {
		return 0, nil, e
	}
	m, e = s.Make(api.TList, first, 0)
	return m, []int{first, m}, e
}
