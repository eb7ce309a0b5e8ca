package tree

import (
	"surety/api"
	"surety/typ"
	"surety/word"
)

// CheckPat returns ErrArg if p is not right.
func CheckPat(p api.Pat) api.Errno {
	names := map[string]struct{}{}
	for node := range nodes(&p, patKid) {
		if !rightPat(*node) {
			return api.ErrArg
		}
		if node.Kind != api.PName {
			continue
		}
		if _, again := names[node.Name]; again {
			return api.ErrArg
		}
		names[node.Name] = struct{}{}
	}
	return api.OK
}

// rightPat reports whether one node of a pattern is right, whatever its kids
// are. The fields of its kind are emptied when they are looked at: any other
// that is not empty then is one too many.
func rightPat(p api.Pat) bool {
	kids, ok := 0, true
	switch p.Kind {
	case api.PAny, api.PUnit, api.PNil:
	case api.PName:
		ok, p.Name = word.Name(p.Name), ""
	case api.PInt:
		p.N = 0
	case api.PBool:
		ok, p.N = truth(p.N), 0
	case api.PStr:
		ok, p.S = len(p.S) <= api.MaxStr, ""
	case api.PPair, api.PCons:
		kids = 2
	default:
		return false
	}
	return ok && len(p.Kids) == kids && p.Name == "" && p.N == 0 && p.S == ""
}

// Check returns ErrArg if e is not right.
func Check(e api.Expr) api.Errno {
	for node := range nodes(&e, exprKid) {
		if !rightExpr(*node) {
			return api.ErrArg
		}
	}
	return api.OK
}

// rightExpr reports whether one expression is right, whatever its kids are. It
// empties fields as rightPat does.
func rightExpr(e api.Expr) bool {
	kids, ok := 0, true
	switch e.Kind {
	case api.EName:
		ok, e.Name = word.Name(e.Name), ""
	case api.EInt:
		e.N = 0
	case api.EBool:
		ok, e.N = truth(e.N), 0
	case api.EStr:
		ok, e.S = len(e.S) <= api.MaxStr, ""
	case api.EUnit, api.ENil:
	case api.EPair, api.ECons, api.EApp:
		kids = 2
	case api.EFun:
		kids, ok = 1, word.Name(e.Name) && optional(e.A)
		e.Name, e.A = "", api.Type{}
	case api.ELet:
		kids, ok = 2, word.Name(e.Name) && optional(e.A)
		e.Name, e.A = "", api.Type{}
	case api.ERec:
		kids, ok = 2, word.Name(e.Name) && word.Name(e.Arg) && optional(e.A) && optional(e.B)
		e.Name, e.Arg, e.A, e.B = "", "", api.Type{}, api.Type{}
	case api.EIf:
		kids = 3
	case api.EMatch:
		kids, ok = len(e.Pats)+1, len(e.Pats) > 0 && rightPats(e.Pats)
		e.Pats = nil
	case api.EAsc:
		kids, ok = 1, annotation(e.A)
		e.A = api.Type{}
	case api.EOp:
		kids, ok = 2, api.OpAdd <= e.Op && e.Op <= api.OpText
		e.Op = 0
	default:
		return false
	}
	return ok && len(e.Kids) == kids && empty(e)
}

// empty reports whether every field is zero but Kind, At and Kids.
func empty(e api.Expr) bool {
	return e.Name == "" && e.Arg == "" && e.N == 0 && e.S == "" && e.Op == 0 &&
		none(e.A) && none(e.B) && len(e.Pats) == 0
}

// rightPats reports whether all patterns of a list are right.
func rightPats(l []api.Pat) bool {
	for _, p := range l {
		if CheckPat(p) != api.OK {
			return false
		}
	}
	return true
}

// truth reports whether n stands for true or false.
func truth(n int64) bool { return n == 0 || n == 1 }

// none reports whether t is the zero value.
func none(t api.Type) bool { return t.Kind == 0 && t.N == 0 && len(t.Kids) == 0 }

// annotation reports whether t is a right and closed type.
func annotation(t api.Type) bool { return typ.Check(t) == api.OK && typ.Closed(t) }

// optional reports whether t is none or a right and closed type.
func optional(t api.Type) bool { return none(t) || annotation(t) }
