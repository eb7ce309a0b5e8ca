package pats

import (
	"fmt"
	"math/rand"
	"slices"
	"strings"
	"testing"

	"surety/agree"
	"surety/api"
	"surety/scheme"
	"surety/store"
	"surety/typ"
)

// typeOf returns the type of a node, which is not too large. It does not count it, as
// Read would do.
func typeOf(s *store.Store, n int) api.Type {
	t := leaf(s.Kind(n))
	if t.Kind == api.TVar {
		t.N = s.Root(n)
	}
	for _, kid := range s.Kids(n) {
		t.Kids = append(t.Kids, typeOf(s, kid))
	}
	return t
}

// written returns a node of a type, whose variables are the nodes 5 and 6.
func written(t *testing.T, s *store.Store, x api.Type) int {
	t.Helper()
	if x.Kind == api.TVar {
		return first + x.N
	}
	if len(x.Kids) == 0 {
		return x.Kind - api.TInt
	}
	kids := []int{0, 0}
	for k := range x.Kids {
		kids[k] = written(t, s, x.Kids[k])
	}
	n, e := s.Make(x.Kind, kids[0], kids[1])
	if e != api.OK {
		t.Fatal(e)
	}
	return n
}

// entries are names with the types of their nodes.
func entries(s *store.Store, names []string, nodes []int) []api.Entry {
	var l []api.Entry
	for k := range names {
		l = append(l, api.Entry{Name: names[k], Type: typeOf(s, nodes[k])})
	}
	return l
}

// P14.3.

func TestIntoBindsWhatBindBinds(t *testing.T) {
	count := map[api.Errno]int{}
	hold := func(p api.Pat, x api.Type) {
		s := store.New(100)
		n, _ := s.Put(x)
		names, nodes, _, e := Into(s, p, n, 3)
		count[e]++
		if got, want := boundText(entries(s, names, nodes), e), bound(p, x); got != want {
			t.Fatalf("%s and %s: %s, want %s", patText(p), text(x), got, want)
		}
	}
	for _, p := range rightPats(5) {
		for _, x := range rightTypes(3, i, b, s, u) {
			hold(p, x)
		}
		for _, x := range []api.Type{list(list(pairOf(i, b))), list(pairOf(s, u)), pairOf(pairOf(list(b), s), list(u)), pairOf(b, pairOf(i, s)), pairOf(list(i), fun(i, b)), list(fun(list(i), b))} {
			hold(p, x)
		}
	}
	for _, p := range rightPats(3) {
		for _, x := range rightTypes(5, i, b) {
			hold(p, x)
		}
	}
	if count[api.OK] < 1000 || count[api.ErrClash] < 1000 || len(count) != 2 {
		t.Error(count)
	}
}

// checkSame checks that what Into bound is what Bind binds for the type that the node
// then has. For each ? within this type Bind has just this ?, where Into has something
// that can be any static type.
func checkSame(t *testing.T, what string, s *store.Store, p api.Pat, n int, names []string, nodes []int) {
	t.Helper()
	x := typeOf(s, n)
	got := entries(s, names, nodes)
	l, e := Bind(p, x)
	if typ.Static(x) {
		if boundText(got, api.OK) != boundText(l, e) {
			t.Fatalf("%s: %s, but Bind: %s", what, boundText(got, api.OK), boundText(l, e))
		}
		return
	}
	if !slices.Equal(names, Names(p)) {
		t.Fatalf("%s: %v", what, names)
	}
	for k := range l {
		if nodes[k] != n && (!typ.Static(got[k].Type) || !scheme.Under(got[k].Type, l[k].Type)) {
			t.Fatalf("%s: %s, but Bind: %s", what, boundText(got, api.OK), boundText(l, e))
		}
	}
}

// fitting are some static closed types that p fits, in which a part of p that fits any
// type fits some samples.
func fitting(p api.Pat, samples ...api.Type) []api.Type {
	within := []api.Type{i, b, s, u, list(i)}
	var l []api.Type
	switch p.Kind {
	case api.PAny, api.PName:
		l = append(l, samples...)
	case api.PPair:
		for _, x := range fitting(p.Kids[0], within...) {
			for _, y := range fitting(p.Kids[1], within...) {
				l = append(l, pairOf(x, y))
			}
		}
	case api.PNil:
		for _, x := range within {
			l = append(l, list(x))
		}
	case api.PCons:
		l = append(l, fitting(p.Kids[1])...)
		for _, x := range fitting(p.Kids[0], within...) {
			l = append(l, list(x))
		}
	default:
		l = append(l, i, b, s, u)
	}
	return slices.DeleteFunc(l, func(x api.Type) bool { return !fitsByWords(p, x) })
}

// partsOf are types and all that is within them, each once.
func partsOf(l []api.Type) []api.Type {
	var parts []api.Type
	for _, x := range l {
		parts = append(append(parts, x), partsOf(x.Kids)...)
	}
	slices.SortFunc(parts, func(x, y api.Type) int { return strings.Compare(text(x), text(y)) })
	return slices.CompactFunc(parts, typ.Same)
}

// can reports whether there are types for the variables of x, among the parts of some
// types, with which x agrees with one of these.
func can(t *testing.T, x api.Type, l, parts []api.Type) bool {
	t.Helper()
	if vars := typ.Vars(x); len(vars) > 0 {
		return slices.ContainsFunc(parts, func(y api.Type) bool {
			z, e := scheme.Subst(x, []api.Bind{{Var: vars[0], Type: y}})
			if e != api.OK {
				t.Fatal(e)
			}
			return can(t, z, l, parts)
		})
	}
	return slices.ContainsFunc(l, func(y api.Type) bool { return agree.Agree(x, y) })
}

func TestIntoOfTypesWithVariablesAndDynamic(t *testing.T) {
	count := map[api.Errno]int{}
	for _, p := range rightPats(3) {
		fits := fitting(p, i, b, s, u, list(i), list(list(i)), pairOf(i, i), fun(i, i))
		parts := partsOf(fits)
		for _, x := range rightTypes(3, i, d, number(0), number(1)) {
			s := store.New(100)
			s.Var(2)
			s.Var(3)
			n := written(t, s, x)
			before := typeOf(s, n)
			names, nodes, _, e := Into(s, p, n, 1)
			count[e]++
			what := patText(p) + " and " + text(x)
			if e != api.OK && can(t, before, fits, parts) {
				t.Fatalf("%s: %v, but there is a type that fits", what, e)
			}
			if e == api.OK {
				if !can(t, before, fits, parts) {
					t.Fatalf("%s: there is no type that fits", what)
				}
				checkSame(t, what, s, p, n, names, nodes)
			}
		}
	}
	if count[api.OK] < 500 || count[api.ErrClash] < 500 || len(count) != 2 {
		t.Error(count)
	}
}

func TestWhatIsBoundBelowDynamic(t *testing.T) {
	// Into has something of level 0 for it, which goes on to be the same in all places.
	for _, c := range []struct{ p, want string }{
		{"x", "x:?"}, {"(x, y)", "x:5 y:6"}, {"x :: y", "x:5 y:5 list"}, {"(x, 1)", "x:5"}, {"(x, y) :: z", "x:7 y:8 z:(7 * 8) list"},
		{"x :: y :: z", "x:7 y:7 z:7 list"}, {"x :: 1 :: _", "x:int"}, {"[] :: x", "x:7 list list"},
	} {
		s := store.New(50)
		names, nodes, _, e := Into(s, read(t, c.p), 4, 3)
		var l []string
		for k := range names {
			l = append(l, names[k]+":"+short(s, nodes[k]))
			for _, v := range s.Vars(nodes[k]) {
				if s.Level(v) != 0 {
					t.Error(c, names[k], s.Level(v))
				}
			}
		}
		if got := strings.Join(l, " "); e != api.OK || got != c.want {
			t.Errorf("%s: %v %s, want %s", c.p, e, got, c.want)
		}
	}
}

// short writes the type of a node as the language does, but with plain numbers as variables.
func short(s *store.Store, n int) string {
	switch kids := s.Kids(n); s.Kind(n) {
	case api.TVar:
		return fmt.Sprint(s.Root(n))
	case api.TPair:
		return "(" + short(s, kids[0]) + " * " + short(s, kids[1]) + ")"
	case api.TFun:
		return "(" + short(s, kids[0]) + " -> " + short(s, kids[1]) + ")"
	case api.TList:
		return short(s, kids[0]) + " list"
	}
	return []string{"int", "bool", "string", "unit", "?"}[s.Root(n)]
}

// P14.2 and P14.3: any patterns in any stores.

// twins are two stores in which the same was done, but Into in one of them by the words
// of the chapter.
type twins struct {
	*testing.T
	s, words *store.Store
	log      []string
	count    map[api.Errno]int
}

func newTwins(t *testing.T, limit int) *twins {
	return &twins{T: t, s: store.New(limit), words: store.New(limit), count: map[api.Errno]int{}}
}

// step takes what to do from next, which returns numbers from 0 on that are less than
// the one given.
func (c *twins) step(next func(below int) int) {
	c.Helper()
	top := first
	for c.s.Root(top) >= 0 {
		top++
	}
	node := func() int { return next(top + next(30)/29) }
	x, y := node(), node()
	switch next(10) {
	case 0, 1:
		level := next(5)
		c.log = append(c.log, fmt.Sprint("Var ", level))
		c.s.Var(level)
		c.words.Var(level)
	case 2, 3, 4:
		kind := api.TPair + next(3)
		c.log = append(c.log, fmt.Sprint("Make ", kind, x, y))
		c.s.Make(kind, x, y)
		c.words.Make(kind, x, y)
	case 5:
		c.log = append(c.log, fmt.Sprint("Link ", x, y))
		c.s.Link(x, y)
		c.words.Link(x, y)
	default:
		c.into(placed(anyPat(next, 4)), x, next(6)-next(12)/11)
	}
}

func (c *twins) into(p api.Pat, n, level int) {
	c.Helper()
	what := fmt.Sprint("Into ", patText(p), n, level)
	c.log = append(c.log, what)
	names, nodes, bad, e := Into(c.s, p, n, level)
	got, want := result(names, nodes, bad, e), result(intoByWords(c.words, p, n, level))
	if now, wanted := picture(c.s), picture(c.words); got != want || now != wanted {
		c.Fatalf("%s: %v %s, want %v %s", strings.Join(c.log, "; "), got, now, want, wanted)
	}
	c.count[e]++
	if e == api.OK && c.smallAll(append(nodes, n)) {
		checkSame(c.T, strings.Join(c.log, "; "), c.s, p, n, names, nodes)
	}
}

// smallAll reports whether the types of all nodes are small.
func (c *twins) smallAll(nodes []int) bool {
	for _, n := range nodes {
		if c.room(n, 200) < 0 {
			return false
		}
	}
	return true
}

// room returns how many more nodes than the type of n has there might be.
func (c *twins) room(n, room int) int {
	room--
	for _, kid := range c.s.Kids(n) {
		if room >= 0 {
			room = c.room(kid, room)
		}
	}
	return room
}

// anyPat builds a pattern of not more than a depth, now and then one that is not right.
func anyPat(next func(below int) int, depth int) api.Pat {
	if depth > 0 && next(5) > 1 {
		return pat([]int{api.PPair, api.PCons}[next(2)], anyPat(next, depth-1), anyPat(next, depth-1))
	}
	switch next(10) {
	case 0, 1, 2:
		return named("x")
	case 3, 4:
		return pat(api.PAny)
	case 5:
		return pat(api.PNil)
	case 6:
		return pat(api.PUnit)
	case 7:
		return api.Pat{Kind: api.PBool, N: int64(next(40)) / 19}
	case 8:
		return api.Pat{Kind: api.PStr, S: "s"}
	}
	return api.Pat{Kind: api.PInt, N: int64(next(3))}
}

func TestManyCallsAgainstTheWords(t *testing.T) {
	count := map[api.Errno]int{}
	for seed := range int64(3000) {
		random := rand.New(rand.NewSource(seed))
		c := newTwins(t, 1+random.Intn(80))
		for range 40 {
			c.step(random.Intn)
		}
		for e, n := range c.count {
			count[e] += n
		}
	}
	if len(count) != 4 || count[api.OK] < 3000 || count[api.ErrClash] < 3000 || count[api.ErrLimit] < 3000 || count[api.ErrArg] < 1000 {
		t.Error(count)
	}
}

func FuzzInto(f *testing.F) {
	f.Add(uint8(10), []byte{0, 1, 2, 3, 4, 5, 6, 7, 8, 9})
	f.Add(uint8(80), []byte("some variables, pairs and lists, and patterns that are to agree with all of them"))
	f.Fuzz(func(t *testing.T, limit uint8, calls []byte) {
		if len(calls) > 300 {
			return
		}
		c := newTwins(t, int(limit)/2)
		next := func(below int) int {
			if len(calls) == 0 {
				return 0
			}
			n := int(calls[0]) % below
			calls = calls[1:]
			return n
		}
		for len(calls) > 0 {
			c.step(next)
		}
	})
}
