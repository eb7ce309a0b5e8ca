package parse

import "surety/api"

// pat reads a pattern, and adds its names to those of the whole pattern that it
// is a part of.
func (r *reader) pat(names map[string]struct{}) *api.Pat {
	first := r.pop(names)
	if !r.take("::") {
		return first
	}
	rest := r.pat(names)
	at := api.Span{From: first.At.From, To: rest.At.To}
	return &api.Pat{Kind: api.PCons, At: at, Kids: []api.Pat{*first, *rest}}
}

func (r *reader) pop(names map[string]struct{}) *api.Pat {
	t := r.peek()
	p := &api.Pat{At: api.Span{From: t.From, To: t.To}}
	switch t.Kind {
	case api.KName:
		if _, again := names[t.S]; again {
			r.stopped = true
			return p
		}
		names[t.S] = struct{}{}
		p.Kind, p.Name = api.PName, t.S
	case api.KNum:
		p.Kind, p.N = api.PInt, t.N
	case api.KStr:
		p.Kind, p.S = api.PStr, t.S
	default:
		return r.fixedPop(p, names)
	}
	r.next++
	return p
}

// fixedPop reads a pop that has to begin with a key word or a sign. What p has
// is the place of that token.
func (r *reader) fixedPop(p *api.Pat, names map[string]struct{}) *api.Pat {
	switch {
	case r.take("_"):
		p.Kind = api.PAny
	case r.take("true"):
		p.Kind, p.N = api.PBool, 1
	case r.take("false"):
		p.Kind = api.PBool
	case r.take("["):
		p.Kind, p.At.To = api.PNil, r.need("]").To
	case r.take("("):
		return r.enclosedPat(p.At.From, names)
	default:
		r.stopped = true
	}
	return p
}

// enclosedPat reads on behind parentheses that open at an offset.
func (r *reader) enclosedPat(from int, names map[string]struct{}) *api.Pat {
	if t := r.peek(); r.take(")") {
		return &api.Pat{Kind: api.PUnit, At: api.Span{From: from, To: t.To}}
	}
	first := r.pat(names)
	if !r.take(",") {
		// These only enclose a pattern, which keeps its own place.
		r.need(")")
		return first
	}
	second := r.pat(names)
	at := api.Span{From: from, To: r.need(")").To}
	return &api.Pat{Kind: api.PPair, At: at, Kids: []api.Pat{*first, *second}}
}
