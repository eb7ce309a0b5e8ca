package parse

import "surety/api"

func (r *reader) cmp() *api.Expr {
	left := r.cons()
	switch {
	case r.take("<"):
		return operation(api.OpLess, left, r.cons())
	case r.take("="):
		return operation(api.OpSame, left, r.cons())
	case r.take("=="):
		return operation(api.OpText, left, r.cons())
	}
	return left
}

func (r *reader) cons() *api.Expr {
	first := r.sum()
	if r.take("::") {
		return join(&api.Expr{Kind: api.ECons}, first, r.cons())
	}
	return first
}

func (r *reader) sum() *api.Expr {
	left := r.prod()
	for {
		switch {
		case r.take("+"):
			left = operation(api.OpAdd, left, r.prod())
		case r.take("-"):
			left = operation(api.OpSub, left, r.prod())
		default:
			return left
		}
	}
}

func (r *reader) prod() *api.Expr {
	left := r.app()
	for {
		switch {
		case r.take("*"):
			left = operation(api.OpMul, left, r.app())
		case r.take("/"):
			left = operation(api.OpDiv, left, r.app())
		default:
			return left
		}
	}
}

func (r *reader) app() *api.Expr {
	left := r.atom()
	if left == nil {
		r.stopped = true
		return &api.Expr{}
	}
	for argument := r.atom(); argument != nil; argument = r.atom() {
		left = join(&api.Expr{Kind: api.EApp}, left, argument)
	}
	return left
}

func operation(op int, left, right *api.Expr) *api.Expr {
	return join(&api.Expr{Kind: api.EOp, Op: op}, left, right)
}

// join completes an expression that extends from its first kid to its second
// one, which does not include parentheses around them.
func join(e, first, second *api.Expr) *api.Expr {
	e.Kids = []api.Expr{*first, *second}
	e.At = api.Span{From: first.At.From, To: second.At.To}
	return e
}

// atom reads an atom if the next token begins one; otherwise it returns nil.
func (r *reader) atom() *api.Expr {
	t := r.peek()
	e := &api.Expr{At: api.Span{From: t.From, To: t.To}}
	switch t.Kind {
	case api.KName:
		e.Kind, e.Name = api.EName, t.S
	case api.KNum:
		e.Kind, e.N = api.EInt, t.N
	case api.KStr:
		e.Kind, e.S = api.EStr, t.S
	default:
		return r.fixedAtom(e)
	}
	r.next++
	return e
}

// fixedAtom reads an atom if a key word or a sign comes next that begins one.
// What e has is the place of that token.
func (r *reader) fixedAtom(e *api.Expr) *api.Expr {
	switch {
	case r.take("true"):
		e.Kind, e.N = api.EBool, 1
	case r.take("false"):
		e.Kind = api.EBool
	case r.take("["):
		e.Kind, e.At.To = api.ENil, r.need("]").To
	case r.take("("):
		return r.enclosed(e.At.From)
	default:
		return nil
	}
	return e
}

// enclosed reads on behind parentheses that open at an offset.
func (r *reader) enclosed(from int) *api.Expr {
	if t := r.peek(); r.take(")") {
		return &api.Expr{Kind: api.EUnit, At: api.Span{From: from, To: t.To}}
	}
	first := r.expr()
	var e *api.Expr
	switch {
	case r.take(","):
		e = join(&api.Expr{Kind: api.EPair}, first, r.expr())
	case r.take(":"):
		e = &api.Expr{Kind: api.EAsc, A: r.typ(), Kids: []api.Expr{*first}}
	default:
		// These only enclose an expression, which keeps its own place.
		r.need(")")
		return first
	}
	e.At = api.Span{From: from, To: r.need(")").To}
	return e
}
