package store

import (
	"fmt"
	"slices"
	"strings"

	"surety/api"
)

// stores is what a Store can do, and what the model of one can do.
type stores interface {
	Count() int
	Var(level int) (int, api.Errno)
	Make(kind, a, b int) (int, api.Errno)
	Put(t api.Type) (int, api.Errno)
	Root(n int) int
	Kind(n int) int
	Kids(n int) []int
	Level(n int) int
	Link(v, n int) api.Errno
	Lower(n, level int) api.Errno
	Within(v, n int) bool
	Vars(n int) []int
	Static(n int) bool
	Copy(n int, from, to []int) (int, api.Errno)
	Read(n int) (api.Type, api.Errno)
}

// model is a store that follows the words of the chapter, whatever that costs.
type model struct {
	limit, count int
	nodes        []modelNode
}

// modelNode is a node of a model. It is linked if its link is not -1.
type modelNode struct {
	kind, level int
	kids        []int
	link        int
}

func newModel(limit int) *model {
	m := &model{limit: limit}
	if limit < 0 {
		m.limit = 0
	}
	if limit > api.MaxLimit {
		m.limit = api.MaxLimit
	}
	for _, kind := range []int{api.TInt, api.TBool, api.TStr, api.TUnit, api.TDyn} {
		m.nodes = append(m.nodes, modelNode{kind, -1, nil, -1})
	}
	return m
}

func (m *model) isNode(n int) bool { return n >= 0 && n < len(m.nodes) }

func (m *model) areNodes(l []int) bool {
	for _, n := range l {
		if !m.isNode(n) {
			return false
		}
	}
	return true
}

func (m *model) create(kind, level int, kids ...int) int {
	m.count++
	m.nodes = append(m.nodes, modelNode{kind, level, kids, -1})
	return len(m.nodes) - 1
}

// inOrder adds to l the roots within n that are not in it, in order.
func (m *model) inOrder(n int, l []int) []int {
	root := m.Root(n)
	if slices.Contains(l, root) {
		return l
	}
	l = append(l, root)
	for _, kid := range m.nodes[root].kids {
		l = m.inOrder(kid, l)
	}
	return l
}

func (m *model) Count() int { return m.count }

func (m *model) Var(level int) (int, api.Errno) {
	if level < 0 {
		return 0, api.ErrArg
	}
	if m.count == m.limit {
		return 0, api.ErrLimit
	}
	return m.create(api.TVar, level), api.OK
}

func (m *model) Make(kind, a, b int) (int, api.Errno) {
	kids := []int{a, b}
	switch {
	case (kind == api.TPair || kind == api.TFun) && m.isNode(a) && m.isNode(b):
	case kind == api.TList && m.isNode(a):
		kids = []int{a}
	default:
		return 0, api.ErrArg
	}
	if m.count == m.limit {
		return 0, api.ErrLimit
	}
	return m.create(kind, -1, kids...), api.OK
}

// right reports whether t is a right and closed type.
func right(t api.Type) bool {
	kids := map[int]int{api.TInt: 0, api.TBool: 0, api.TStr: 0, api.TUnit: 0, api.TDyn: 0, api.TPair: 2, api.TList: 1, api.TFun: 2}
	if n, ok := kids[t.Kind]; !ok || n != len(t.Kids) || t.N != 0 {
		return false
	}
	for _, kid := range t.Kids {
		if !right(kid) {
			return false
		}
	}
	return true
}

// inner returns how many pairs, lists and functions are in t.
func inner(t api.Type) int {
	n := 0
	for _, kid := range t.Kids {
		n += inner(kid)
	}
	if len(t.Kids) > 0 {
		n++
	}
	return n
}

func (m *model) Put(t api.Type) (int, api.Errno) {
	if !right(t) {
		return 0, api.ErrArg
	}
	if inner(t) > m.limit-m.count {
		return 0, api.ErrLimit
	}
	return m.put(t), api.OK
}

func (m *model) put(t api.Type) int {
	switch t.Kind {
	case api.TInt:
		return 0
	case api.TBool:
		return 1
	case api.TStr:
		return 2
	case api.TUnit:
		return 3
	case api.TDyn:
		return 4
	}
	var kids []int
	for _, kid := range t.Kids {
		kids = append(kids, m.put(kid))
	}
	return m.create(t.Kind, -1, kids...)
}

func (m *model) Root(n int) int {
	if !m.isNode(n) {
		return -1
	}
	if link := m.nodes[n].link; link != -1 {
		return m.Root(link)
	}
	return n
}

func (m *model) Kind(n int) int {
	if !m.isNode(n) {
		return 0
	}
	return m.nodes[m.Root(n)].kind
}

func (m *model) Kids(n int) []int {
	if !m.isNode(n) {
		return nil
	}
	return m.nodes[m.Root(n)].kids
}

func (m *model) Level(n int) int {
	if !m.isNode(n) || m.Kind(n) != api.TVar {
		return -1
	}
	return m.nodes[m.Root(n)].level
}

func (m *model) Within(v, n int) bool {
	return m.isNode(v) && m.isNode(n) && slices.Contains(m.inOrder(n, nil), m.Root(v))
}

func (m *model) Vars(n int) []int {
	if !m.isNode(n) {
		return nil
	}
	return slices.DeleteFunc(m.inOrder(n, nil), func(root int) bool { return m.Kind(root) != api.TVar })
}

func (m *model) Static(n int) bool { return m.isNode(n) && !m.Within(4, n) }

func (m *model) Link(v, n int) api.Errno {
	if !m.isNode(v) || !m.isNode(n) || m.Kind(v) != api.TVar || m.Root(v) == m.Root(n) {
		return api.ErrArg
	}
	if m.Within(v, n) {
		return api.ErrLoop
	}
	m.Lower(n, m.Level(v))
	m.nodes[m.Root(v)].link = m.Root(n)
	return api.OK
}

func (m *model) Lower(n, level int) api.Errno {
	if !m.isNode(n) || level < 0 {
		return api.ErrArg
	}
	for _, v := range m.Vars(n) {
		if m.nodes[v].level > level {
			m.nodes[v].level = level
		}
	}
	return api.OK
}

func (m *model) Copy(n int, from, to []int) (int, api.Errno) {
	if !m.isNode(n) || !m.areNodes(from) || !m.areNodes(to) || len(from) != len(to) {
		return 0, api.ErrArg
	}
	var roots []int
	for _, v := range from {
		if m.Kind(v) != api.TVar || slices.Contains(roots, m.Root(v)) {
			return 0, api.ErrArg
		}
		roots = append(roots, m.Root(v))
	}
	anew := slices.DeleteFunc(m.inOrder(n, nil), func(root int) bool {
		return m.Kind(root) == api.TVar || !m.touches(root, roots)
	})
	if len(anew) > m.limit-m.count {
		return 0, api.ErrLimit
	}
	return m.copyOf(n, roots, to, map[int]int{}), api.OK
}

// touches reports whether one of some roots is within n.
func (m *model) touches(n int, roots []int) bool {
	return slices.ContainsFunc(roots, func(root int) bool { return m.Within(root, n) })
}

// copyOf returns what stands in the place of n if the roots are replaced by the
// nodes to. Of those that have been created anew, copies has the numbers.
func (m *model) copyOf(n int, roots, to []int, copies map[int]int) int {
	root := m.Root(n)
	if k := slices.Index(roots, root); k >= 0 {
		return to[k]
	}
	if !m.touches(root, roots) {
		return root
	}
	if _, again := copies[root]; !again {
		var kids []int
		for _, kid := range m.nodes[root].kids {
			kids = append(kids, m.copyOf(kid, roots, to, copies))
		}
		copies[root] = m.create(m.nodes[root].kind, -1, kids...)
	}
	return copies[root]
}

func (m *model) Read(n int) (api.Type, api.Errno) {
	if !m.isNode(n) {
		return api.Type{}, api.ErrArg
	}
	size := m.size(n, map[int]int{})
	if size > m.limit-m.count {
		return api.Type{}, api.ErrLimit
	}
	m.count += size
	return m.typeOf(n), api.OK
}

// size returns how many nodes the type of n has, or a number beyond all limits
// if it has more.
func (m *model) size(n int, sizes map[int]int) int {
	root := m.Root(n)
	if size, again := sizes[root]; again {
		return size
	}
	size := 1
	for _, kid := range m.nodes[root].kids {
		size = min(size+m.size(kid, sizes), 1<<40)
	}
	sizes[root] = size
	return size
}

func (m *model) typeOf(n int) api.Type {
	root := m.Root(n)
	t := api.Type{Kind: m.nodes[root].kind}
	if t.Kind == api.TVar {
		t.N = root
	}
	for _, kid := range m.nodes[root].kids {
		t.Kids = append(t.Kids, m.typeOf(kid))
	}
	return t
}

// tells tells of one number all that a store says of it alone.
func tells(s stores, n int) string {
	return fmt.Sprint(s.Root(n), s.Kind(n), s.Kids(n), s.Level(n), s.Vars(n), s.Static(n))
}

// state tells all that a store says of the numbers from -2 to the greatest one.
func state(s stores, greatest int) string {
	var all strings.Builder
	fmt.Fprintln(&all, s.Count())
	for n := -2; n <= greatest; n++ {
		fmt.Fprint(&all, n, ": ", tells(s, n), ", within")
		for m := -2; m <= greatest; m++ {
			if s.Within(n, m) {
				fmt.Fprint(&all, " ", m)
			}
		}
		fmt.Fprintln(&all)
	}
	return all.String()
}
