package tree

import (
	"iter"

	"surety/api"
)

// kidOf returns kid k of a node, counted from 0, if there is one. It says which
// way a tree is gone through.
type kidOf[N any] func(node N, k int) (N, bool)

// visit is a place on the way through a tree: at a node of which so many kids
// have been gone through.
type visit[N any] struct {
	node        N
	kids, depth int
}

// visits goes through a tree in its order: it comes to each node ahead of each
// of its kids and once more behind the last one. The stack is its own, since a
// tree may be deeper than calls can be. A kid is asked for only after the visit
// ahead of it: whoever ranges may give a node other kids at the first one.
func visits[N any](root N, kid kidOf[N]) iter.Seq[visit[N]] {
	return func(yield func(visit[N]) bool) {
		open := []visit[N]{{root, 0, 1}}
		for len(open) > 0 {
			top := len(open) - 1
			at := open[top]
			if !yield(at) {
				return
			}
			if next, ok := kid(at.node, at.kids); ok {
				open[top].kids++
				open = append(open, visit[N]{next, 0, at.depth + 1})
			} else {
				open = open[:top]
			}
		}
	}
}

// nodes ranges over the nodes of a tree in its order, each with its depth.
func nodes[N any](root N, kid kidOf[N]) iter.Seq2[N, int] {
	return func(yield func(node N, depth int) bool) {
		for at := range visits(root, kid) {
			if at.kids == 0 && !yield(at.node, at.depth) {
				return
			}
		}
	}
}

// exprKid leads through the whole of an expression.
func exprKid(e *api.Expr, k int) (*api.Expr, bool) { return item(e.Kids, k) }

// formKid leads only through what decides whether an expression is a value
// form: pairs and lists.
func formKid(e *api.Expr, k int) (*api.Expr, bool) {
	if e.Kind != api.EPair && e.Kind != api.ECons {
		return nil, false
	}
	return item(e.Kids, k)
}

// patKid leads through the whole of a pattern.
func patKid(p *api.Pat, k int) (*api.Pat, bool) { return item(p.Kids, k) }

// item returns where element i of a list is, if there is one.
func item[T any](l []T, i int) (*T, bool) {
	if i >= len(l) {
		return nil, false
	}
	return &l[i], true
}

// two are the nodes of two trees that are in the same place.
type two[N any] struct{ a, b N }

// ofBoth leads through two trees at once, as far as both have kids.
func ofBoth[N any](kid kidOf[N]) kidOf[two[N]] {
	return func(at two[N], k int) (two[N], bool) {
		a, inA := kid(at.a, k)
		b, inB := kid(at.b, k)
		return two[N]{a, b}, inA && inB
	}
}

// same reports whether all nodes of two trees are alike, which includes that
// they have equally many kids.
func same[N any](a, b N, kid kidOf[N], alike func(a, b N) bool) bool {
	for at := range nodes(two[N]{a, b}, ofBoth(kid)) {
		if !alike(at.a, at.b) {
			return false
		}
	}
	return true
}

// annotations ranges over the annotations of all expressions of e that are not
// none, in the order of the tree.
func annotations(e *api.Expr) iter.Seq[*api.Type] {
	return func(yield func(*api.Type) bool) {
		for node := range nodes(e, exprKid) {
			for a := range ownAnnotations(node) {
				if !yield(a) {
					return
				}
			}
		}
	}
}

// ownAnnotations ranges over those of A and B that are not none.
func ownAnnotations(e *api.Expr) iter.Seq[*api.Type] {
	return func(yield func(*api.Type) bool) {
		if !none(e.A) && !yield(&e.A) {
			return
		}
		if !none(e.B) {
			yield(&e.B)
		}
	}
}

// binds ranges over the names that an expression binds in its kid k. A k that
// stands for no kid is allowed: nothing is bound there.
func binds(e *api.Expr, k int) iter.Seq[string] {
	return func(yield func(name string) bool) {
		switch {
		case e.Kind == api.ERec && k == 0:
			_ = yield(e.Name) && yield(e.Arg)
		case e.Kind == api.EFun && k == 0, (e.Kind == api.ELet || e.Kind == api.ERec) && k == 1:
			yield(e.Name)
		case e.Kind == api.EMatch && 1 <= k && k <= len(e.Pats):
			for p := range nodes(&e.Pats[k-1], patKid) {
				if p.Kind == api.PName && !yield(p.Name) {
					return
				}
			}
		}
	}
}
