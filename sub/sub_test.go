package sub

import (
	"fmt"
	"math"
	"runtime/debug"
	"slices"
	"strings"
	"testing"

	"surety/api"
	"surety/prec"
	"surety/typ"
)

func leaf(kind int) api.Type { return api.Type{Kind: kind} }

func variable(n int) api.Type { return api.Type{Kind: api.TVar, N: n} }

func node(kind int, kids ...api.Type) api.Type { return api.Type{Kind: kind, Kids: kids} }

func pair(a, b api.Type) api.Type { return node(api.TPair, a, b) }

func fun(a, b api.Type) api.Type { return node(api.TFun, a, b) }

func list(a api.Type) api.Type { return node(api.TList, a) }

// The leaves, by short names.
var (
	i = leaf(api.TInt)
	b = leaf(api.TBool)
	s = leaf(api.TStr)
	u = leaf(api.TUnit)
	d = leaf(api.TDyn)
	v = variable(0)
	w = variable(1)
)

// text is the whole of a type: each node is <kind.N and its kids>.
func text(t api.Type) string {
	var kids strings.Builder
	for _, kid := range t.Kids {
		kids.WriteString(text(kid))
	}
	return fmt.Sprintf("<%d.%d%s>", t.Kind, t.N, kids.String())
}

// mark tells in which relations a type stands to another one: + in all three, p
// in the positive one only, n in the negative one only, - in none. There is no
// other case (P10.2), so that any other answer is !.
type mark byte

func markOf(pos, neg, sub bool) mark {
	switch [3]bool{pos, neg, sub} {
	case [3]bool{true, true, true}:
		return '+'
	case [3]bool{true, false, false}:
		return 'p'
	case [3]bool{false, true, false}:
		return 'n'
	case [3]bool{false, false, false}:
		return '-'
	}
	return '!'
}

func (m mark) pos() bool { return m == '+' || m == 'p' }

func (m mark) neg() bool { return m == '+' || m == 'n' }

// and is the mark of two types that stand in those relations that both marks name.
func (m mark) and(n mark) mark {
	pos, neg := m.pos() && n.pos(), m.neg() && n.neg()
	return markOf(pos, neg, pos && neg)
}

// turned is the mark of two types as the arguments of functions in the other order.
func (m mark) turned() mark { return markOf(m.neg(), m.pos(), m == '+') }

func marks(x, y api.Type) mark { return markOf(Pos(x, y), Neg(x, y), Sub(x, y)) }

// check checks in which relations x stands to y.
func check(t *testing.T, x, y api.Type, want mark) {
	t.Helper()
	if got := marks(x, y); got != want {
		t.Errorf("%s to %s: %c (%v %v %v), want %c", text(x), text(y), got, Pos(x, y), Neg(x, y), Sub(x, y), want)
	}
}

// checkOrders is check for both orders.
func checkOrders(t *testing.T, x, y api.Type, there, back mark) {
	t.Helper()
	check(t, x, y, there)
	check(t, y, x, back)
}

// spot is a node at a place of a type, and whether it lies within an odd number
// of arguments of functions.
type spot struct {
	kind, n int
	turned  bool
}

func (x spot) same(y spot) bool { return x.kind == y.kind && x.n == y.n }

// places tell which node is at each place of a type, where a place is the way
// down to it, such as 01 for the second kid of the first kid.
type places map[string]spot

func placesOf(t api.Type) places {
	l := places{}
	l.add("", t, false)
	return l
}

func (l places) add(place string, t api.Type, turned bool) {
	for k, kid := range t.Kids {
		l.add(place+string(rune('0'+k)), kid, turned != (t.Kind == api.TFun && k == 0))
	}
	l[place] = spot{t.Kind, t.N, turned}
}

// at is the node at a place, where each part of a ? is a ?, too.
func (l places) at(place string) spot {
	for end := range len(place) {
		if l[place[:end]].kind == api.TDyn {
			return spot{kind: api.TDyn}
		}
	}
	return l[place]
}

// fits reports whether each node of l that is not ? is a node of m, too, or is
// beside a ? of m, lies within an odd number of arguments if turned and within
// an even number otherwise, and is not a variable.
func (l places) fits(m places, turned bool) bool {
	for place, x := range l {
		y := m.at(place)
		free := y.kind == api.TDyn && x.turned == turned && x.kind != api.TVar
		if x.kind != api.TDyn && !x.same(y) && !free {
			return false
		}
	}
	return true
}

// isSub reports whether at each place of l or m both have the same node, or only
// the one that is the greater there has a ?, and the other one is not a variable.
// Within an odd number of arguments that of l is the greater one.
func (l places) isSub(m places) bool {
	for _, from := range []places{l, m} {
		for place, z := range from {
			less, greater := l.at(place), m.at(place)
			if z.turned {
				less, greater = greater, less
			}
			free := greater.kind == api.TDyn && less.kind != api.TVar
			if !less.same(greater) && !free {
				return false
			}
		}
	}
	return true
}

// marks tells from the places of two right types, without going through the
// types at once, in which relations they stand.
func (l places) marks(m places) mark {
	return markOf(m.fits(l, true), l.fits(m, false), l.isSub(m))
}

// checkAny holds both orders against the places of any types.
func checkAny(t *testing.T, x, y api.Type) {
	t.Helper()
	if typ.Check(x) != api.OK || typ.Check(y) != api.OK {
		checkOrders(t, x, y, '-', '-')
		return
	}
	l, m := placesOf(x), placesOf(y)
	checkOrders(t, x, y, l.marks(m), m.marks(l))
}

// rightTypes are all right types of at most so many nodes from some leaves.
func rightTypes(most int, leaves ...api.Type) []api.Type {
	l := [][]api.Type{nil, leaves}
	for size := 2; size <= most; size++ {
		var next []api.Type
		for _, x := range l[size-1] {
			next = append(next, list(x))
		}
		for first := 1; first < size-1; first++ {
			for _, x := range l[first] {
				for _, y := range l[size-1-first] {
					next = append(next, pair(x, y), fun(x, y))
				}
			}
		}
		l = append(l, next)
	}
	return slices.Concat(l...)
}

// around calls f for a way to put a type at each place of some right types, and
// whether it is within an odd number of arguments there.
func around(f func(put func(x api.Type) api.Type, turned bool)) {
	for _, c := range []struct {
		put    func(x api.Type) api.Type
		turned bool
	}{
		{list, false},
		{func(x api.Type) api.Type { return pair(x, i) }, false},
		{func(x api.Type) api.Type { return pair(i, x) }, false},
		{func(x api.Type) api.Type { return fun(x, i) }, true},
		{func(x api.Type) api.Type { return fun(i, x) }, false},
	} {
		f(c.put, c.turned)
		f(func(x api.Type) api.Type { return list(c.put(x)) }, c.turned)
		f(func(x api.Type) api.Type { return pair(c.put(x), list(v)) }, c.turned)
		f(func(x api.Type) api.Type { return pair(fun(d, b), c.put(x)) }, c.turned)
		f(func(x api.Type) api.Type { return fun(c.put(x), d) }, !c.turned)
		f(func(x api.Type) api.Type { return fun(list(list(w)), c.put(x)) }, c.turned)
	}
}

// checkAround is checkOrders for two types by themselves and at each place of
// some right types that are otherwise the same.
func checkAround(t *testing.T, x, y api.Type, there, back mark) {
	t.Helper()
	checkOrders(t, x, y, there, back)
	around(func(put func(x api.Type) api.Type, turned bool) {
		t.Helper()
		if turned {
			checkOrders(t, put(x), put(y), back.turned(), there.turned())
		} else {
			checkOrders(t, put(x), put(y), there, back)
		}
	})
}

// P10.1: which types stand in which relations.

func TestExamplesOfTheDocument(t *testing.T) {
	if !Pos(fun(i, i), d) || Neg(fun(i, i), d) {
		t.Error("int -> int and ?")
	}
	if !Neg(d, i) || Pos(d, i) {
		t.Error("? and int")
	}
	checkAround(t, fun(i, i), d, 'p', 'n')
	checkAround(t, d, i, 'n', '+')
}

func TestEachKindAgainstEachKind(t *testing.T) {
	types := []api.Type{i, b, s, u, d, v, pair(i, b), list(i), fun(i, b)}
	// For each type a row: the marks with the types of the columns.
	rows := []string{
		"+---+----",
		"-+--+----",
		"--+-+----",
		"---++----",
		"nnnn+nnnn",
		"----p+---",
		"----+-+--",
		"----+--+-",
		"----p---+",
	}
	for k, row := range rows {
		for j := range row {
			checkAround(t, types[k], types[j], mark(rows[k][j]), mark(rows[j][k]))
		}
	}
}

func TestKindsOfTheSameShape(t *testing.T) {
	for _, kids := range [][]api.Type{{i, i}, {d, d}, {i, b}, {v, v}, {pair(i, i), pair(i, i)}} {
		checkAround(t, pair(kids[0], kids[1]), fun(kids[0], kids[1]), '-', '-')
		checkOrders(t, pair(kids[0], kids[1]), fun(d, d), '-', '-')
		checkOrders(t, fun(kids[0], kids[1]), pair(d, d), '-', '-')
		checkOrders(t, list(kids[0]), pair(kids[0], kids[1]), '-', '-')
		checkOrders(t, list(kids[0]), fun(kids[0], kids[1]), '-', '-')
	}
	for _, x := range []api.Type{i, v, list(i), list(v), pair(d, d), fun(i, d)} {
		checkAround(t, list(x), x, '-', '-')
	}
	checkAround(t, list(list(d)), list(d), '+', 'n')
}

func TestAllPairsOfSmallTypes(t *testing.T) {
	for _, l := range [][]api.Type{
		rightTypes(4, i, b, d, v, w),
		rightTypes(3, i, b, s, u, d, v, variable(api.MaxVar)),
		rightTypes(5, i, d),
	} {
		var all []places
		for _, x := range l {
			all = append(all, placesOf(x))
		}
		for k, x := range l {
			for j, y := range l {
				check(t, x, y, all[k].marks(all[j]))
			}
		}
	}
}

// rules are the three relations between some types as far as they have been
// told, by the words of the chapter.
type rules struct {
	types         []api.Type
	index         map[string]int
	pos, neg, sub [][]bool
}

// rulesOf takes types with which all their kids and their grounds are listed.
func rulesOf(types []api.Type) *rules {
	r := &rules{types: types, index: map[string]int{}}
	for k, x := range types {
		r.index[text(x)] = k
		r.pos = append(r.pos, make([]bool, len(types)))
		r.neg = append(r.neg, make([]bool, len(types)))
		r.sub = append(r.sub, make([]bool, len(types)))
	}
	return r
}

func (r *rules) told(rows [][]bool, a, b api.Type) bool {
	return rows[r.index[text(a)]][r.index[text(b)]]
}

func sameLeaf(a, b api.Type) bool { return len(a.Kids) == 0 && text(a) == text(b) }

// kidByKid is the rule for pairs and lists.
func (r *rules) kidByKid(rows [][]bool, a, b api.Type) bool {
	if a.Kind != b.Kind || a.Kind != api.TPair && a.Kind != api.TList {
		return false
	}
	for k := range a.Kids {
		if !r.told(rows, a.Kids[k], b.Kids[k]) {
			return false
		}
	}
	return true
}

func (r *rules) functions(from, to [][]bool, a, b api.Type) bool {
	return a.Kind == api.TFun && b.Kind == api.TFun && r.told(from, b.Kids[0], a.Kids[0]) && r.told(to, a.Kids[1], b.Kids[1])
}

// byGround is the rule for a type that has a ground, and ?.
func (r *rules) byGround(rows [][]bool, a, b api.Type) bool {
	ground, ok := prec.Ground(a)
	return b.Kind == api.TDyn && ok && r.told(rows, a, ground)
}

// step tells what follows from what has been told, and whether that is more.
func (r *rules) step() bool {
	more := false
	for k, a := range r.types {
		for j, b := range r.types {
			pos := b.Kind == api.TDyn || sameLeaf(a, b) || r.kidByKid(r.pos, a, b) || r.functions(r.neg, r.pos, a, b)
			neg := a.Kind == api.TDyn || r.byGround(r.neg, a, b) || sameLeaf(a, b) || r.kidByKid(r.neg, a, b) || r.functions(r.pos, r.neg, a, b)
			sub := r.byGround(r.sub, a, b) || sameLeaf(a, b) || r.kidByKid(r.sub, a, b) || r.functions(r.sub, r.sub, a, b)
			more = more || pos != r.pos[k][j] || neg != r.neg[k][j] || sub != r.sub[k][j]
			r.pos[k][j], r.neg[k][j], r.sub[k][j] = pos, neg, sub
		}
	}
	return more
}

func TestTheRulesOfTheChapter(t *testing.T) {
	for _, l := range [][]api.Type{rightTypes(4, i, b, d, v), rightTypes(5, i, d), rightTypes(3, s, u, d, v, w)} {
		r := rulesOf(l)
		for r.step() {
		}
		for k, x := range l {
			for j, y := range l {
				if Pos(x, y) != r.pos[k][j] || Neg(x, y) != r.neg[k][j] || Sub(x, y) != r.sub[k][j] {
					t.Errorf("%s to %s: %v, %v, %v, want %v, %v, %v", text(x), text(y),
						Pos(x, y), Neg(x, y), Sub(x, y), r.pos[k][j], r.neg[k][j], r.sub[k][j])
				}
			}
		}
	}
}

func TestDynOnEitherSideAndOnBoth(t *testing.T) {
	checkAround(t, d, d, '+', '+')
	for _, x := range rightTypes(5, i, b, d, v) {
		if text(x) == text(d) {
			continue
		}
		if !Pos(x, d) || Pos(d, x) || !Neg(d, x) || Sub(d, x) {
			t.Error(text(x))
		}
		if Sub(x, d) != Neg(x, d) {
			t.Error(text(x))
		}
	}
	// A ? beside another part of each type.
	checkOrders(t, pair(i, d), pair(d, i), 'n', 'n')
	checkOrders(t, fun(i, d), fun(d, i), '-', '+')
	checkOrders(t, pair(fun(i, i), d), pair(d, fun(i, i)), '-', '-')
	checkOrders(t, fun(fun(i, i), d), fun(d, fun(i, i)), '-', '-')
}

// belowDyn tells which right types are subtypes of ?, all at once: those without
// variables whose functions all have the argument ?.
func belowDyn(x api.Type) bool {
	if x.Kind == api.TVar || x.Kind == api.TFun && x.Kids[0].Kind != api.TDyn {
		return false
	}
	for _, kid := range x.Kids {
		if !belowDyn(kid) {
			return false
		}
	}
	return true
}

func TestTypesBesideDyn(t *testing.T) {
	for _, x := range []api.Type{
		pair(i, b), pair(d, i), pair(pair(s, u), list(d)), list(list(list(u))),
		fun(d, i), fun(d, list(s)), fun(d, fun(d, fun(d, i))), pair(fun(d, d), list(fun(d, pair(i, d)))),
	} {
		checkAround(t, x, d, '+', 'n')
	}
	for _, x := range []api.Type{
		fun(i, i), fun(i, d), fun(pair(d, d), d), fun(fun(d, d), d), fun(list(d), i), fun(fun(i, d), d), fun(d, fun(i, d)), fun(d, fun(d, fun(u, d))),
		list(fun(i, i)), pair(fun(s, i), i), pair(i, fun(s, i)), list(list(pair(i, fun(b, d)))),
		v, w, list(v), pair(v, d), pair(d, v), fun(d, v), fun(v, d), fun(d, fun(d, list(w))), pair(fun(d, i), list(v)),
	} {
		checkAround(t, x, d, 'p', 'n')
	}
	for _, x := range append(rightTypes(5, i, d, v), rightTypes(6, i, d)...) {
		if belowDyn(x) {
			check(t, x, d, '+')
		} else {
			check(t, x, d, 'p')
		}
	}
}

func TestGroundsAgainstDyn(t *testing.T) {
	for _, x := range []api.Type{i, b, s, u, pair(d, d), list(d), fun(d, d)} {
		if ground, ok := prec.Ground(x); !ok || text(ground) != text(x) {
			t.Fatal(text(x))
		}
		checkAround(t, x, d, '+', 'n')
		checkAround(t, x, x, '+', '+')
	}
}

// Against ? a type stands in the relations, but the positive one, in which it
// stands to its ground.
func TestTypesAgainstTheirGrounds(t *testing.T) {
	for _, x := range append(rightTypes(5, i, d, v), rightTypes(3, i, b, s, u, d, v, w)...) {
		ground, ok := prec.Ground(x)
		if !ok {
			continue
		}
		if Neg(x, ground) != Neg(x, d) || Sub(x, ground) != Sub(x, d) {
			t.Errorf("%s: %c, but %c to its ground", text(x), marks(x, d), marks(x, ground))
		}
	}
	checkAround(t, pair(i, b), pair(d, d), '+', 'n')
	checkAround(t, list(i), list(d), '+', 'n')
	checkAround(t, fun(i, i), fun(d, d), 'p', 'n')
	checkAround(t, fun(d, i), fun(d, d), '+', 'n')
	checkAround(t, fun(i, d), fun(d, d), 'p', '+')
}

func TestVariables(t *testing.T) {
	numbers := []int{0, 1, 2, 255, 256, 257, 65536, api.MaxVar - 1, api.MaxVar}
	for _, n := range numbers {
		x := variable(n)
		for _, m := range numbers {
			want := mark('-')
			if n == m {
				want = '+'
			}
			checkAround(t, x, variable(m), want, want)
		}
		checkAround(t, x, d, 'p', 'n')
		for _, y := range rightTypes(3, i, b, s, u, variable(n+1-n%2*2)) {
			checkOrders(t, x, y, '-', '-')
		}
		for _, y := range []api.Type{list(x), pair(x, x), fun(x, x), list(d), pair(d, x), fun(x, d), fun(d, d)} {
			checkOrders(t, x, y, '-', '-')
			check(t, y, y, '+')
		}
	}
	checkOrders(t, fun(v, w), fun(w, v), '-', '-')
	checkOrders(t, fun(v, v), fun(v, w), '-', '-')
	checkOrders(t, fun(v, w), fun(d, w), 'p', 'n')
	checkOrders(t, fun(fun(v, i), w), fun(fun(d, i), w), 'p', 'n')
	checkOrders(t, pair(v, list(w)), pair(v, list(d)), 'p', 'n')
	checkOrders(t, pair(v, list(w)), pair(d, list(d)), 'p', 'n')
	checkOrders(t, pair(v, d), pair(d, v), '-', '-')
	checkOrders(t, pair(v, d), pair(d, i), '-', 'n')
}

// samples are pairs of types for each mark.
func samples() map[mark][][2]api.Type {
	return map[mark][][2]api.Type{
		'+': {{i, i}, {d, d}, {v, v}, {i, d}, {list(i), list(d)}, {fun(d, i), d}, {fun(d, i), fun(i, i)}, {fun(d, i), fun(i, d)}},
		'p': {{v, d}, {fun(i, i), d}, {fun(i, i), fun(d, i)}, {list(v), list(d)}, {fun(i, v), fun(i, d)}, {fun(i, i), fun(d, d)}},
		'n': {{d, i}, {d, v}, {d, fun(i, i)}, {list(d), list(i)}, {pair(i, d), pair(d, i)}, {fun(i, d), fun(i, i)}},
		'-': {{i, b}, {v, w}, {v, i}, {list(i), list(b)}, {pair(i, i), fun(i, i)}, {list(d), i}, {fun(i, d), fun(d, i)}, {pair(v, d), pair(d, i)}},
	}
}

func TestSamples(t *testing.T) {
	for m, l := range samples() {
		for _, x := range l {
			check(t, x[0], x[1], m)
			checkAny(t, x[0], x[1])
		}
	}
}

// Each kid counts, that of an argument in the other order and with the positive
// and the negative relation swapped.
func TestKidsOneByOne(t *testing.T) {
	for m, l := range samples() {
		for _, x := range l {
			check(t, list(x[0]), list(x[1]), m)
			for n, k := range samples() {
				for _, y := range k {
					check(t, pair(x[0], y[0]), pair(x[1], y[1]), m.and(n))
					check(t, fun(x[1], y[0]), fun(x[0], y[1]), m.turned().and(n))
				}
			}
		}
	}
}

func TestArgumentsTurn(t *testing.T) {
	for m, l := range samples() {
		for _, c := range l {
			x, y, want := c[0], c[1], m
			for range 7 {
				x, y, want = fun(y, b), fun(x, b), want.turned()
				check(t, x, y, want)
				check(t, list(x), list(y), want)
				check(t, fun(y, y), fun(x, y), want.turned())
				check(t, fun(u, x), fun(u, y), want)
				checkAny(t, x, y)
			}
		}
	}
	// One example written out, with a ? ever deeper in arguments of arguments.
	checkOrders(t, i, d, '+', 'n')
	checkOrders(t, fun(i, b), fun(d, b), 'p', '+')
	checkOrders(t, fun(fun(i, b), b), fun(fun(d, b), b), '+', 'n')
	checkOrders(t, fun(fun(fun(i, b), b), b), fun(fun(fun(d, b), b), b), 'p', '+')
	checkOrders(t, fun(fun(v, b), b), fun(fun(d, b), b), 'p', 'n')
	// An argument beside a ? turns as well.
	checkOrders(t, fun(fun(i, i), i), fun(d, i), 'p', 'n')
	checkOrders(t, fun(fun(d, i), i), fun(d, i), 'p', '+')
	checkOrders(t, fun(d, fun(fun(d, d), d)), d, 'p', 'n')
	// Both an argument and a result, in all ways to place two ?.
	checkOrders(t, fun(i, i), fun(d, d), 'p', 'n')
	checkOrders(t, fun(i, d), fun(d, i), '-', '+')
	checkOrders(t, fun(fun(i, i), i), fun(fun(d, d), i), 'p', 'n')
	checkOrders(t, fun(fun(i, d), i), fun(fun(d, i), i), '+', '-')
}

// Types that stand in one of the relations, but not in the others, in both orders.
func TestOneRelationOnly(t *testing.T) {
	for _, c := range []struct {
		x, y        api.Type
		there, back mark
	}{
		{v, d, 'p', 'n'},
		{d, fun(i, i), 'n', 'p'},
		{fun(i, d), d, 'p', 'n'},
		{d, list(v), 'n', 'p'},
		{pair(i, d), pair(d, i), 'n', 'n'},
		{pair(list(d), list(i)), pair(list(i), list(d)), 'n', 'n'},
		{fun(pair(i, d), i), fun(pair(d, i), i), 'p', 'p'},
		{fun(fun(i, i), u), fun(d, u), 'p', 'n'},
		{list(fun(i, b)), list(fun(d, b)), 'p', '+'},
		{fun(i, fun(i, d)), fun(i, fun(i, b)), 'n', '+'},
		{pair(fun(d, i), i), pair(fun(i, i), d), '+', '-'},
		{pair(fun(i, i), d), pair(fun(d, i), i), '-', '+'},
		{pair(fun(i, i), i), pair(fun(d, i), d), 'p', 'n'},
		{pair(v, i), pair(d, d), 'p', 'n'},
	} {
		checkAround(t, c.x, c.y, c.there, c.back)
		checkAny(t, c.x, c.y)
	}
}

// P10.1: types that are not right.

// wrongTypes are types that are not right, in each field.
func wrongTypes() []api.Type {
	l := []api.Type{
		{}, {N: 1}, node(0, i), node(0, i, i),
		leaf(-1), leaf(10), node(10, i, i), leaf(math.MinInt), leaf(math.MaxInt), leaf(256 + api.TInt), leaf(1<<32 + api.TDyn),
		variable(-1), variable(api.MaxVar + 1), variable(math.MinInt), variable(math.MaxInt), variable(1 << 32),
		node(api.TVar, i), node(api.TVar, d, d),
		leaf(api.TPair), node(api.TPair, i), node(api.TPair, i, i, i), node(api.TPair, d, d, d),
		leaf(api.TFun), node(api.TFun, i), node(api.TFun, i, i, i), node(api.TFun, d, d, d),
		leaf(api.TList), node(api.TList, i, i), node(api.TList, d, d, d),
	}
	for _, n := range []int{-1, 1, 5, math.MinInt, math.MaxInt} {
		l = append(l, api.Type{Kind: api.TPair, N: n, Kids: []api.Type{i, i}},
			api.Type{Kind: api.TFun, N: n, Kids: []api.Type{i, i}},
			api.Type{Kind: api.TFun, N: n, Kids: []api.Type{d, d}},
			api.Type{Kind: api.TList, N: n, Kids: []api.Type{i}})
	}
	for _, x := range []api.Type{i, b, s, u, d} {
		for _, n := range []int{-1, 1, math.MinInt, math.MaxInt, 1 << 32} {
			l = append(l, api.Type{Kind: x.Kind, N: n})
		}
		l = append(l, node(x.Kind, i), node(x.Kind, d), node(x.Kind, i, i), node(x.Kind, api.Type{}))
	}
	return l
}

func TestTypesThatAreNotRight(t *testing.T) {
	for _, x := range wrongTypes() {
		// What x could be taken for, if a field was not looked at.
		like := []api.Type{x, d, i, leaf(x.Kind), {Kind: x.Kind, N: x.N}, node(x.Kind, i), node(x.Kind, i, i), node(x.Kind, d, d), node(x.Kind, x.Kids...)}
		for _, y := range like {
			checkOrders(t, x, y, '-', '-')
		}
		around(func(put func(x api.Type) api.Type, _ bool) {
			checkOrders(t, put(x), d, '-', '-')
			checkOrders(t, put(x), put(d), '-', '-')
			for _, y := range like {
				checkOrders(t, put(x), put(y), '-', '-')
			}
		})
	}
}

func TestAWrongTypeBesideOneThatIsSettled(t *testing.T) {
	for _, x := range wrongTypes() {
		checkOrders(t, pair(i, x), pair(b, x), '-', '-')
		checkOrders(t, pair(x, i), pair(x, b), '-', '-')
		checkOrders(t, fun(x, i), fun(d, b), '-', '-')
		checkOrders(t, fun(d, fun(x, i)), fun(d, d), '-', '-')
		checkOrders(t, pair(d, x), pair(v, d), '-', '-')
		checkOrders(t, list(x), i, '-', '-')
		checkOrders(t, x, v, '-', '-')
	}
}

// changes calls f for t with each change at one of its nodes.
func changes(t api.Type, f func(api.Type)) {
	with := func(change func(*api.Type)) {
		x := t
		change(&x)
		f(x)
	}
	for kind := range 11 {
		with(func(x *api.Type) { x.Kind = kind })
	}
	for _, n := range []int{-1, 1, 1 << 32} {
		with(func(x *api.Type) { x.N += n })
	}
	with(func(x *api.Type) { x.Kids = append(slices.Clip(x.Kids), i) })
	with(func(x *api.Type) { x.Kids = append([]api.Type{d}, x.Kids...) })
	with(func(x *api.Type) { *x = list(*x) })
	with(func(x *api.Type) { *x = d })
	for k := range t.Kids {
		with(func(x *api.Type) { x.Kids = slices.Delete(slices.Clone(x.Kids), k, k+1) })
		with(func(x *api.Type) { *x = x.Kids[k] })
		changes(t.Kids[k], func(kid api.Type) {
			with(func(x *api.Type) {
				x.Kids = slices.Clone(x.Kids)
				x.Kids[k] = kid
			})
		})
	}
}

// largerTypes are some types that rightTypes does not reach.
func largerTypes() []api.Type {
	return []api.Type{
		fun(pair(i, d), list(v)),
		pair(fun(d, w), fun(list(s), d)),
		list(pair(list(fun(d, u)), pair(b, w))),
		fun(fun(fun(d, i), d), pair(v, pair(d, d))),
		fun(fun(pair(d, i), fun(b, d)), fun(fun(s, d), fun(d, i))),
	}
}

func TestOneChange(t *testing.T) {
	for _, x := range append(largerTypes(), i, d, v) {
		changes(x, func(y api.Type) {
			checkAny(t, x, y)
			changes(y, func(z api.Type) { checkAny(t, x, z) })
		})
	}
}

// P10.2: what follows.

func checkConsequences(t *testing.T, x, y api.Type) {
	t.Helper()
	if Sub(x, y) != (Pos(x, y) && Neg(x, y)) {
		t.Errorf("%s to %s: %v, but %v and %v", text(x), text(y), Sub(x, y), Pos(x, y), Neg(x, y))
	}
	if prec.Below(x, y) != (Pos(x, y) && Neg(y, x)) {
		t.Errorf("%s below %s: %v, but %v and %v", text(x), text(y), prec.Below(x, y), Pos(x, y), Neg(y, x))
	}
}

func TestConsequencesForSmallTypes(t *testing.T) {
	for _, l := range [][]api.Type{rightTypes(4, i, b, d, v), rightTypes(5, i, d), rightTypes(3, i, s, u, d, v, w), wrongTypes()} {
		for _, x := range l {
			for _, y := range l {
				checkConsequences(t, x, y)
			}
		}
	}
}

func TestConsequencesForLargerTypes(t *testing.T) {
	for _, x := range largerTypes() {
		changes(x, func(y api.Type) {
			checkConsequences(t, x, y)
			checkConsequences(t, y, x)
			changes(y, func(z api.Type) {
				checkConsequences(t, x, z)
				checkConsequences(t, z, x)
			})
		})
	}
}

// The consequences do not hold for want of cases: the marks of two types in both
// orders are all those that may be.
func TestAllMarksInBothOrders(t *testing.T) {
	for _, c := range []struct {
		x, y        api.Type
		there, back mark
	}{
		{i, i, '+', '+'},
		{i, d, '+', 'n'},
		{fun(d, i), fun(i, i), '+', 'p'},
		{fun(d, i), fun(i, d), '+', '-'},
		{v, d, 'p', 'n'},
		{fun(pair(i, d), i), fun(pair(d, i), i), 'p', 'p'},
		{fun(d, v), fun(i, d), 'p', '-'},
		{pair(i, d), pair(d, i), 'n', 'n'},
		{pair(i, d), pair(d, v), 'n', '-'},
		{i, b, '-', '-'},
	} {
		checkOrders(t, c.x, c.y, c.there, c.back)
		checkConsequences(t, c.x, c.y)
		checkConsequences(t, c.y, c.x)
	}
}

// The rules: every call ends, arguments stay as they are, results hang on them only.

// chain returns x below so many nodes, one by one.
func chain(depth int, down func(x api.Type) api.Type, x api.Type) api.Type {
	for range depth {
		x = down(x)
	}
	return x
}

// checkLarge is checkOrders for types whose texts are too long.
func checkLarge(t *testing.T, x, y api.Type, there, back mark) {
	t.Helper()
	if gotThere, gotBack := marks(x, y), marks(y, x); gotThere != there || gotBack != back {
		t.Errorf("%c and %c, want %c and %c", gotThere, gotBack, there, back)
	}
}

func TestTypesThatAreDeep(t *testing.T) {
	// A function that calls itself for each kid would need more than this.
	defer debug.SetMaxStack(debug.SetMaxStack(2 << 20))
	const depth = 1 << 15
	for _, c := range []struct {
		down   func(x api.Type) api.Type
		turned bool
		dyn    mark // of a deep type without variables against ?
	}{
		{list, false, '+'},
		{func(x api.Type) api.Type { return pair(x, d) }, false, '+'},
		{func(x api.Type) api.Type { return pair(i, x) }, false, '+'},
		{func(x api.Type) api.Type { return fun(x, list(i)) }, true, 'p'},
		{func(x api.Type) api.Type { return fun(d, x) }, false, '+'},
		{func(x api.Type) api.Type { return fun(d, list(pair(u, x))) }, false, '+'},
		{func(x api.Type) api.Type { return fun(list(pair(u, x)), d) }, true, 'p'},
	} {
		build := func(x api.Type) api.Type { return chain(depth, c.down, x) }
		// Of an even depth, so that the outermost sides are those of the leaves.
		checkLarge(t, build(i), build(i), '+', '+')
		checkLarge(t, build(d), build(d), '+', '+')
		checkLarge(t, build(v), build(v), '+', '+')
		checkLarge(t, build(i), build(d), '+', 'n')
		checkLarge(t, build(v), build(d), 'p', 'n')
		checkLarge(t, build(fun(i, i)), build(fun(d, i)), 'p', '+')
		checkLarge(t, build(i), build(b), '-', '-')
		checkLarge(t, build(v), build(w), '-', '-')
		checkLarge(t, build(i), chain(depth+1, c.down, i), '-', '-')
		checkLarge(t, chain(depth+9, c.down, i), build(d), c.dyn, 'n')
		if c.turned {
			checkLarge(t, c.down(build(i)), c.down(build(d)), 'p', '+')
		} else {
			checkLarge(t, c.down(build(i)), c.down(build(d)), '+', 'n')
		}
		checkLarge(t, build(i), d, c.dyn, 'n')
		checkLarge(t, build(v), d, 'p', 'n')
		checkLarge(t, list(build(b)), list(d), c.dyn, 'n')
		checkLarge(t, build(api.Type{}), build(api.Type{}), '-', '-')
		checkLarge(t, build(variable(-1)), d, '-', '-')
	}
}

func TestTypesOfManyParts(t *testing.T) {
	const parts = 1 << 14
	grow := func(first api.Type) func(x api.Type) api.Type {
		return func(x api.Type) api.Type { return pair(first, x) }
	}
	part := fun(list(i), pair(b, list(s)))
	dyns, types := chain(parts, grow(d), i), chain(parts, grow(part), i)
	checkLarge(t, types, dyns, 'p', 'n')
	checkLarge(t, types, types, '+', '+')
	checkLarge(t, chain(parts, grow(fun(d, pair(b, list(s)))), i), dyns, '+', 'n')
	checkLarge(t, chain(parts, grow(fun(d, list(v))), i), dyns, 'p', 'n')
	checkLarge(t, chain(parts-1, grow(part), i), dyns, '-', '-')
	checkLarge(t, chain(parts-1, grow(part), pair(part, d)), types, 'n', '+')
	checkLarge(t, chain(parts-1, grow(part), pair(b, i)), types, '-', '-')
}

func TestWrongTypesThatAreWide(t *testing.T) {
	kids := slices.Repeat([]api.Type{i}, 1<<16)
	for kind := range 11 {
		x := node(kind, kids...)
		checkLarge(t, x, x, '-', '-')
		checkLarge(t, x, d, '-', '-')
		checkLarge(t, list(x), list(d), '-', '-')
	}
}

func TestSharedParts(t *testing.T) {
	build := func(kinds [2]int, x api.Type) api.Type {
		for k := range 16 {
			x = node(kinds[k%2], x, x)
		}
		return x
	}
	pairs, both := [2]int{api.TPair, api.TPair}, [2]int{api.TPair, api.TFun}
	checkLarge(t, build(pairs, i), build(pairs, d), '+', 'n')
	checkLarge(t, build(pairs, i), d, '+', 'n')
	checkLarge(t, build(pairs, v), d, 'p', 'n')
	checkLarge(t, build(both, i), build(both, d), 'p', 'n')
	checkLarge(t, build(both, list(fun(i, d))), build(both, list(d)), 'p', 'n')
	checkLarge(t, build(both, v), build(both, v), '+', '+')
	checkLarge(t, build(both, v), build(both, d), 'p', 'n')
	checkLarge(t, build(both, i), build(both, b), '-', '-')
	// One place differs from all others that the same part has.
	x := build(pairs, i)
	x.Kids = []api.Type{x.Kids[0], build(pairs, d).Kids[1]}
	checkLarge(t, x, build(pairs, i), 'n', '+')
	checkLarge(t, x, build(pairs, d), '+', 'n')
	checkLarge(t, x, build(pairs, b), '-', '-')
	// A type beside a part of itself.
	self := pair(pair(d, d), pair(d, d))
	checkOrders(t, self, self.Kids[0], '+', 'n')
}

// spare returns t with two further types behind each list of kids.
func spare(t api.Type) api.Type {
	l := make([]api.Type, 0, len(t.Kids)+2)
	for _, kid := range t.Kids {
		l = append(l, spare(kid))
	}
	t.Kids = append(l, d, variable(-9))[:len(t.Kids)]
	return t
}

// whole is the text of t with what lies behind its lists of kids.
func whole(t api.Type) string {
	s := fmt.Sprintf("<%d.%d %d %d", t.Kind, t.N, len(t.Kids), cap(t.Kids))
	for _, kid := range t.Kids[:cap(t.Kids)] {
		s += whole(kid)
	}
	return s + ">"
}

func TestArgumentsAreNotChanged(t *testing.T) {
	l := append(rightTypes(4, i, b, d, v), wrongTypes()...)
	for k := 0; k < len(l); k += 3 {
		x := spare(l[k])
		wholeX := whole(x)
		for j := 0; j < len(l); j += 2 {
			y := spare(l[j])
			wholeY := whole(y)
			checkAny(t, x, y)
			if whole(x) != wholeX || whole(y) != wholeY {
				t.Fatalf("%s or %s is changed", text(l[k]), text(l[j]))
			}
		}
	}
}

func TestArgumentsThatShareMemory(t *testing.T) {
	// The kids of one type lie behind those of another one.
	memory := []api.Type{i, d, list(d), d}
	x := api.Type{Kind: api.TPair, Kids: memory[:2]}
	y := api.Type{Kind: api.TPair, Kids: memory[1:3]}
	z := api.Type{Kind: api.TFun, Kids: memory[2:4]}
	before := fmt.Sprint(memory)
	checkOrders(t, x, y, 'n', 'n')
	checkOrders(t, y, z, '-', '-')
	checkOrders(t, x, pair(d, d), '+', 'n')
	checkOrders(t, z, fun(d, d), 'p', '+')
	checkOrders(t, pair(x, z), pair(y, z), 'n', 'n')
	checkOrders(t, pair(x, z), d, 'p', 'n')
	if fmt.Sprint(memory) != before {
		t.Error("changed")
	}
}

func TestNilAndEmptyKids(t *testing.T) {
	for _, x := range []api.Type{i, b, s, u, d, v} {
		y := api.Type{Kind: x.Kind, N: x.N, Kids: []api.Type{}}
		checkAround(t, x, y, '+', '+')
		for _, z := range []api.Type{i, d, v, list(x)} {
			checkAround(t, y, z, marks(x, z), marks(z, x))
			checkAny(t, y, z)
		}
	}
	checkOrders(t, api.Type{Kind: api.TPair, Kids: []api.Type{}}, leaf(api.TPair), '-', '-')
	checkOrders(t, api.Type{Kind: api.TFun, Kids: []api.Type{}}, d, '-', '-')
}

func TestResultsDoNotHangOnEarlierCalls(t *testing.T) {
	x, y := fun(list(i), pair(v, b)), fun(list(d), pair(v, d))
	for range 3 {
		checkOrders(t, x, y, 'p', 'n')
		checkOrders(t, x, fun(list(b), pair(v, d)), '-', '-')
		checkOrders(t, x, node(api.TFun, i), '-', '-')
		checkOrders(t, fun(d, i), d, '+', 'n')
		checkOrders(t, x, d, 'p', 'n')
	}
}

// fuzzed builds a type from bytes: a kind, and how far it is from a right one.
func fuzzed(b *[]byte, depth int) api.Type {
	if len(*b) == 0 {
		return d
	}
	head := int((*b)[0])
	*b = (*b)[1:]
	x := leaf(head%10 + head/250)
	kids := 0
	switch {
	case x.Kind == api.TVar:
		x.N = head / 10 % 3
	case x.Kind == api.TList:
		kids = 1
	case x.Kind == api.TPair || x.Kind == api.TFun:
		kids = 2
	}
	if head > 240 {
		x.N, kids = head%3-1, head%4
	}
	if depth == 0 {
		return x
	}
	for range kids {
		x.Kids = append(x.Kids, fuzzed(b, depth-1))
	}
	return x
}

// rougher returns t with a ? at each node whose bit is set, counted in the order
// of the tree.
func rougher(t api.Type, bits *uint) api.Type {
	here := *bits & 1
	*bits >>= 1
	if here == 1 {
		return d
	}
	var kids []api.Type
	for _, kid := range t.Kids {
		kids = append(kids, rougher(kid, bits))
	}
	t.Kids = kids
	return t
}

func FuzzSub(f *testing.F) {
	f.Add([]byte{9, 1, 5}, []byte{9, 5, 2}, uint(2), uint(4))
	f.Add([]byte{7, 5, 6}, []byte{7, 8, 8, 1, 6}, uint(0), uint(1))
	f.Add([]byte{9, 7, 5, 16, 8, 5}, []byte{9, 7, 4, 16, 5}, uint(5), uint(6))
	f.Add([]byte{5}, []byte{9, 7, 1, 2, 8, 6}, uint(1), uint(0))
	f.Add([]byte{9, 9, 1, 9, 2, 3}, []byte{9, 9, 5, 9, 2, 5}, uint(4), uint(40))
	f.Add([]byte{7, 1, 241}, []byte{7, 1, 5}, uint(4), uint(2))
	f.Fuzz(func(t *testing.T, a, b []byte, bits, more uint) {
		x, y := fuzzed(&a, 6), fuzzed(&b, 6)
		for _, c := range [][2]api.Type{{x, y}, {x, x}, {d, y}, {rougher(x, &bits), rougher(x, &more)}} {
			checkAny(t, c[0], c[1])
			checkConsequences(t, c[0], c[1])
			checkConsequences(t, c[1], c[0])
		}
	})
}
