package scheme

import (
	"surety/api"
	"surety/typ"
)

// Under reports whether a and b are right and there are static closed types for
// the variables of each with which a is below b.
func Under(a, b api.Type) bool {
	if !right(a) || !right(b) {
		return false
	}
	g := graph{first: map[variable]int{}}
	return g.compare(a, b) && g.finite()
}

// graph is the parts of two types that stand for static types, with what is
// known to be the same type. Parts are united, not copied, since the types that
// the variables stand for may be far greater than the two types.
type graph struct {
	nodes []node
	first map[variable]int // where each variable stands first
}

// variable is a number of one of the two types.
type variable struct{ ofB, number int }

// node is a node of a part. Its kids are the nodes from one place to another.
type node struct {
	kind     int // TVar for what is any static type
	from, to int
	up       int // the place of a node of the same type, or its own
}

// compare adds the parts of a and b that must be the same for a to be below b,
// and reports whether nothing speaks against that, but that a part may have to
// be within itself.
func (g *graph) compare(a, b api.Type) bool {
	open := []couple{{a, b}}
	for len(open) > 0 {
		top := len(open) - 1
		c := open[top]
		open = open[:top]
		switch {
		case c.b.Kind == api.TDyn:
		case c.a.Kind == api.TVar || c.b.Kind == api.TVar:
			// What stands for a variable is static. It is below nothing but itself
			// and what has a ? in place of parts of it, and above itself only.
			if !typ.Static(c.a) || !g.unite(g.add(c.a, 0), g.add(c.b, 1)) {
				return false
			}
		case c.a.Kind != c.b.Kind:
			return false
		default:
			open = c.addKids(open)
		}
	}
	return true
}

// add adds a part of a (ofB is 0) or of b (1), and returns its place. A ? is
// above any static type, and so a variable that stands nowhere else.
func (g *graph) add(t api.Type, ofB int) int {
	top := len(g.nodes)
	// The types of the nodes from top on, the kids of each behind those of the
	// ones ahead of it.
	types := []api.Type{t}
	for k := 0; k < len(types); k++ {
		x := types[k]
		n := node{kind: x.Kind, from: top + len(types), up: top + k}
		types = append(types, x.Kids...)
		n.to = top + len(types)
		switch x.Kind {
		case api.TDyn:
			n.kind = api.TVar
		case api.TVar:
			n.up = g.firstOf(variable{ofB, x.N}, n.up)
		}
		g.nodes = append(g.nodes, n)
	}
	return top
}

// firstOf returns where v stands first, which is here if it stood nowhere yet.
func (g *graph) firstOf(v variable, here int) int {
	place, again := g.first[v]
	if !again {
		g.first[v] = here
		return here
	}
	return place
}

// unite makes two nodes, and what is below them, the same, and reports whether
// they can be.
func (g *graph) unite(p, q int) bool {
	open := [][2]int{{p, q}}
	for len(open) > 0 {
		top := len(open) - 1
		p, q := g.find(open[top][0]), g.find(open[top][1])
		open = open[:top]
		m, n := &g.nodes[p], &g.nodes[q]
		switch {
		case p == q:
		case m.kind == api.TVar:
			m.up = q
		case n.kind == api.TVar:
			n.up = p
		case m.kind != n.kind:
			return false
		default:
			n.up = p
			for k := range m.to - m.from {
				open = append(open, [2]int{m.from + k, n.from + k})
			}
		}
	}
	return true
}

// find returns the node that stands for all nodes that are the same as p, and
// makes the way to it shorter for those on it.
func (g *graph) find(p int) int {
	for g.nodes[p].up != p {
		g.nodes[p].up = g.nodes[g.nodes[p].up].up
		p = g.nodes[p].up
	}
	return p
}

// finite reports whether no node is below itself. It takes away, again and
// again, nodes that are not below others: those that stay are below themselves.
func (g *graph) finite() bool {
	above := make([]int, len(g.nodes)) // how often a node is a kid of others
	stay := 0
	for p, n := range g.nodes {
		if n.up == p {
			stay++
			for kid := n.from; kid < n.to; kid++ {
				above[g.find(kid)]++
			}
		}
	}
	var open []int
	for p, n := range g.nodes {
		if n.up == p && above[p] == 0 {
			open = append(open, p)
		}
	}
	for len(open) > 0 {
		top := len(open) - 1
		n := g.nodes[open[top]]
		open = open[:top]
		stay--
		for kid := n.from; kid < n.to; kid++ {
			p := g.find(kid)
			if above[p]--; above[p] == 0 {
				open = append(open, p)
			}
		}
	}
	return stay == 0
}
