package pats

import (
	"surety/api"
	"surety/solve"
	"surety/store"
	"surety/tree"
	"surety/typ"
)

// The functions by the words of the chapter, whatever that costs. They are for small
// patterns only, as they call themselves for each kid.

func namesByWords(p api.Pat) []string {
	var l []string
	if p.Kind == api.PName {
		l = append(l, p.Name)
	}
	for _, kid := range p.Kids {
		l = append(l, namesByWords(kid)...)
	}
	return l
}

// fitsByWords reports whether a right pattern fits a right type.
func fitsByWords(p api.Pat, t api.Type) bool {
	switch p.Kind {
	case api.PAny, api.PName:
		return true
	case api.PInt:
		return t.Kind == api.TInt
	case api.PBool:
		return t.Kind == api.TBool
	case api.PStr:
		return t.Kind == api.TStr
	case api.PUnit:
		return t.Kind == api.TUnit
	case api.PPair:
		return t.Kind == api.TPair && fitsByWords(p.Kids[0], t.Kids[0]) && fitsByWords(p.Kids[1], t.Kids[1])
	case api.PNil:
		return t.Kind == api.TList
	}
	return t.Kind == api.TList && fitsByWords(p.Kids[0], t.Kids[0]) && fitsByWords(p.Kids[1], t)
}

// typesByWords returns the names of a pattern that fits t with their types.
func typesByWords(p api.Pat, t api.Type) []api.Entry {
	switch p.Kind {
	case api.PName:
		return []api.Entry{{Name: p.Name, Type: t}}
	case api.PPair:
		return append(typesByWords(p.Kids[0], t.Kids[0]), typesByWords(p.Kids[1], t.Kids[1])...)
	case api.PCons:
		return append(typesByWords(p.Kids[0], t.Kids[0]), typesByWords(p.Kids[1], t)...)
	}
	return nil
}

func bindByWords(p api.Pat, t api.Type) ([]api.Entry, api.Errno) {
	if tree.CheckPat(p) != api.OK || typ.Check(t) != api.OK {
		return nil, api.ErrArg
	}
	if !fitsByWords(p, t) {
		return nil, api.ErrClash
	}
	return typesByWords(p, t), api.OK
}

// words makes nodes of a store agree with patterns.
type words struct {
	s     *store.Store
	level int
	names []string
	nodes []int
	bad   api.Bad
}

func intoByWords(s *store.Store, p api.Pat, n, level int) (names []string, nodes []int, bad api.Bad, e api.Errno) {
	if tree.CheckPat(p) != api.OK || s.Kind(n) == 0 || level < 0 {
		return nil, nil, api.Bad{}, api.ErrArg
	}
	x := words{s: s, level: level}
	if e := x.process(p, n); e != api.OK {
		return nil, nil, x.bad, e
	}
	return x.names, x.nodes, api.Bad{}, api.OK
}

func (x *words) process(p api.Pat, n int) api.Errno {
	switch p.Kind {
	case api.PName:
		x.names = append(x.names, p.Name)
		x.nodes = append(x.nodes, n)
	case api.PInt:
		return x.agree(p, n, 0)
	case api.PBool:
		return x.agree(p, n, 1)
	case api.PStr:
		return x.agree(p, n, 2)
	case api.PUnit:
		return x.agree(p, n, 3)
	case api.PPair:
		return x.pair(p, n)
	case api.PNil, api.PCons:
		return x.list(p, n)
	}
	return api.OK
}

func (x *words) pair(p api.Pat, n int) api.Errno {
	a, e := x.s.Var(x.level)
	if e != api.OK {
		return e
	}
	b, e := x.s.Var(x.level)
	if e != api.OK {
		return e
	}
	m, e := x.s.Make(api.TPair, a, b)
	if e != api.OK {
		return e
	}
	if e := x.agree(p, n, m); e != api.OK {
		return e
	}
	return x.kids(p, a, b)
}

func (x *words) list(p api.Pat, n int) api.Errno {
	a, e := x.s.Var(x.level)
	if e != api.OK {
		return e
	}
	m, e := x.s.Make(api.TList, a, -1)
	if e != api.OK {
		return e
	}
	if e := x.agree(p, n, m); e != api.OK || p.Kind == api.PNil {
		return e
	}
	return x.kids(p, a, m)
}

func (x *words) kids(p api.Pat, first, second int) api.Errno {
	if e := x.process(p.Kids[0], first); e != api.OK {
		return e
	}
	return x.process(p.Kids[1], second)
}

func (x *words) agree(p api.Pat, n, m int) api.Errno {
	left, right, e := solve.Agree(x.s, n, m)
	if e != api.OK && e != api.ErrLimit {
		x.bad.At, x.bad.Why, x.bad.Left, x.bad.Right = p.At, e, left, right
	}
	return e
}
