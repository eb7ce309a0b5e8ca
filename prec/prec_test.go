package prec

import (
	"fmt"
	"math"
	"runtime/debug"
	"slices"
	"strings"
	"testing"

	"surety/agree"
	"surety/api"
	"surety/typ"
)

func leaf(kind int) api.Type { return api.Type{Kind: kind} }

func variable(n int) api.Type { return api.Type{Kind: api.TVar, N: n} }

func node(kind int, kids ...api.Type) api.Type { return api.Type{Kind: kind, Kids: kids} }

func pair(a, b api.Type) api.Type { return node(api.TPair, a, b) }

func fun(a, b api.Type) api.Type { return node(api.TFun, a, b) }

func list(a api.Type) api.Type { return node(api.TList, a) }

// The leaves, by short names.
var (
	i = leaf(api.TInt)
	b = leaf(api.TBool)
	s = leaf(api.TStr)
	u = leaf(api.TUnit)
	d = leaf(api.TDyn)
	v = variable(0)
	w = variable(1)
)

// text is the whole of a type: each node is <kind.N and its kids>.
func text(t api.Type) string {
	var kids strings.Builder
	for _, kid := range t.Kids {
		kids.WriteString(text(kid))
	}
	return fmt.Sprintf("<%d.%d%s>", t.Kind, t.N, kids.String())
}

// places tell which node, by Kind and N, is at each place of a type, where a
// place is the way down to it, such as 01 for the second kid of the first kid.
type places map[string][2]int

func placesOf(t api.Type) places {
	l := places{}
	l.add("", t)
	return l
}

func (l places) add(place string, t api.Type) {
	for k, kid := range t.Kids {
		l.add(place+string(rune('0'+k)), kid)
	}
	l[place] = [2]int{t.Kind, t.N}
}

// isBelow tells from the places of two right types whether one is below the
// other: it has the same node wherever the other one does not have a ?.
func (l places) isBelow(m places) bool {
	for place, y := range m {
		if x, ok := l[place]; y[0] != api.TDyn && (!ok || x != y) {
			return false
		}
	}
	return true
}

// above are all types that a right type is below: those that have a ? in place
// of any of its parts.
func above(t api.Type) []api.Type {
	l := []api.Type{{Kind: t.Kind, N: t.N}}
	for _, kid := range t.Kids {
		var longer []api.Type
		for _, x := range l {
			for _, y := range above(kid) {
				longer = append(longer, node(t.Kind, append(slices.Clone(x.Kids), y)...))
			}
		}
		l = longer
	}
	if t.Kind != api.TDyn {
		l = append(l, d)
	}
	return l
}

func checkBelow(t *testing.T, x, y api.Type, want bool) {
	t.Helper()
	if got := Below(x, y); got != want {
		t.Errorf("%s below %s is %v", text(x), text(y), got)
	}
}

// checkOrders is checkBelow for both orders.
func checkOrders(t *testing.T, x, y api.Type, there, back bool) {
	t.Helper()
	checkBelow(t, x, y, there)
	checkBelow(t, y, x, back)
}

// checkLess checks that x is below y, but y not below x.
func checkLess(t *testing.T, x, y api.Type) {
	t.Helper()
	checkOrders(t, x, y, true, false)
}

// checkNeither checks that neither of two types is below the other one.
func checkNeither(t *testing.T, x, y api.Type) {
	t.Helper()
	checkOrders(t, x, y, false, false)
}

// checkAny holds both orders against the places of any types.
func checkAny(t *testing.T, x, y api.Type) {
	t.Helper()
	if typ.Check(x) != api.OK || typ.Check(y) != api.OK {
		checkNeither(t, x, y)
		return
	}
	l, m := placesOf(x), placesOf(y)
	checkOrders(t, x, y, l.isBelow(m), m.isBelow(l))
}

// checkGround holds Ground against the text of the ground, which is "" if there
// is none.
func checkGround(t *testing.T, x api.Type, want string) {
	t.Helper()
	ground, ok := Ground(x)
	if ok != (want != "") {
		t.Errorf("whether %s has a ground is %v", text(x), ok)
	}
	if want == "" {
		want = text(api.Type{})
	}
	if text(ground) != want {
		t.Errorf("the ground of %s is %s, want %s", text(x), text(ground), want)
	}
}

// groundText is the text of the ground of a right type, from a table of its own.
func groundText(x api.Type) string {
	return []string{"", "<1.0>", "<2.0>", "<3.0>", "<4.0>", "", "", "<7.0<5.0><5.0>>", "<8.0<5.0>>", "<9.0<5.0><5.0>>"}[x.Kind]
}

// rightTypes are all right types of at most so many nodes from some leaves.
func rightTypes(most int, leaves ...api.Type) []api.Type {
	l := [][]api.Type{nil, leaves}
	for size := 2; size <= most; size++ {
		var next []api.Type
		for _, x := range l[size-1] {
			next = append(next, list(x))
		}
		for first := 1; first < size-1; first++ {
			for _, x := range l[first] {
				for _, y := range l[size-1-first] {
					next = append(next, pair(x, y), fun(x, y))
				}
			}
		}
		l = append(l, next)
	}
	return slices.Concat(l...)
}

// around calls f for a way to put a type at each place of some right types.
func around(f func(put func(x api.Type) api.Type)) {
	for _, put := range []func(x api.Type) api.Type{
		list,
		func(x api.Type) api.Type { return pair(x, i) },
		func(x api.Type) api.Type { return pair(i, x) },
		func(x api.Type) api.Type { return fun(x, i) },
		func(x api.Type) api.Type { return fun(i, x) },
	} {
		f(put)
		f(func(x api.Type) api.Type { return list(put(x)) })
		f(func(x api.Type) api.Type { return pair(put(x), list(v)) })
		f(func(x api.Type) api.Type { return pair(fun(d, b), put(x)) })
		f(func(x api.Type) api.Type { return fun(put(x), d) })
		f(func(x api.Type) api.Type { return fun(list(list(w)), put(x)) })
	}
}

// P9.1: which types are below which.

func TestExamplesOfTheDocument(t *testing.T) {
	checkLess(t, fun(i, i), fun(d, i))
	checkLess(t, fun(i, i), d)
}

func TestEachKindAgainstEachKind(t *testing.T) {
	types := []api.Type{i, b, s, u, d, v, pair(i, b), list(i), fun(i, b)}
	// For each type a row: + where it is below the type of the column.
	rows := []string{
		"+---+----",
		"-+--+----",
		"--+-+----",
		"---++----",
		"----+----",
		"----++---",
		"----+-+--",
		"----+--+-",
		"----+---+",
	}
	for k, row := range rows {
		for j, mark := range row {
			checkBelow(t, types[k], types[j], mark == '+')
			around(func(put func(x api.Type) api.Type) {
				checkBelow(t, put(types[k]), put(types[j]), mark == '+')
			})
		}
	}
}

func TestKindsOfTheSameShape(t *testing.T) {
	for _, kids := range [][]api.Type{{i, i}, {d, d}, {i, b}, {v, v}, {pair(i, i), pair(i, i)}} {
		checkNeither(t, pair(kids[0], kids[1]), fun(kids[0], kids[1]))
		checkNeither(t, pair(kids[0], kids[1]), fun(d, d))
		checkNeither(t, fun(kids[0], kids[1]), pair(d, d))
		checkNeither(t, list(kids[0]), pair(kids[0], kids[1]))
		checkNeither(t, list(kids[0]), fun(kids[0], kids[1]))
	}
	for _, x := range []api.Type{i, v, list(i), list(v), pair(d, d), fun(i, d)} {
		checkNeither(t, list(x), x)
	}
	checkLess(t, list(d), d)
	checkLess(t, list(list(d)), list(d))
}

func TestAllPairsOfSmallTypes(t *testing.T) {
	for _, l := range [][]api.Type{
		rightTypes(4, i, b, d, v, w),
		rightTypes(3, i, b, s, u, d, v, variable(api.MaxVar)),
		rightTypes(5, i, d),
	} {
		var all []places
		for _, x := range l {
			all = append(all, placesOf(x))
		}
		for k, x := range l {
			for j, y := range l {
				checkBelow(t, x, y, all[k].isBelow(all[j]))
			}
		}
	}
}

func TestBelowTheTypesWithDynInPlaceOfParts(t *testing.T) {
	l := rightTypes(5, i, d, v)
	for _, x := range l {
		listed := map[string]bool{}
		for _, y := range above(x) {
			listed[text(y)] = true
			checkBelow(t, x, y, true)
		}
		for _, y := range l {
			checkBelow(t, x, y, listed[text(y)])
		}
	}
}

func TestDynOnEitherSideAndOnBoth(t *testing.T) {
	checkBelow(t, d, d, true)
	for _, x := range rightTypes(5, i, b, d, v) {
		if text(x) == text(d) {
			continue
		}
		checkLess(t, x, d)
		checkLess(t, list(x), list(d))
		checkLess(t, pair(x, d), pair(d, d))
		checkLess(t, pair(d, x), pair(d, d))
		checkLess(t, fun(x, v), fun(d, v))
		checkLess(t, fun(v, x), fun(v, d))
		checkNeither(t, pair(x, d), pair(d, x))
		checkNeither(t, fun(x, d), fun(d, x))
	}
}

func TestVariables(t *testing.T) {
	numbers := []int{0, 1, 2, 255, 256, 257, 65536, api.MaxVar - 1, api.MaxVar}
	for _, n := range numbers {
		x := variable(n)
		for _, m := range numbers {
			checkBelow(t, x, variable(m), n == m)
		}
		checkLess(t, x, d)
		for _, y := range rightTypes(3, i, b, s, u, variable(n+1-n%2*2)) {
			checkNeither(t, x, y)
		}
		for _, y := range []api.Type{list(x), pair(x, x), fun(x, x), list(d), pair(d, x), fun(x, d)} {
			checkNeither(t, x, y)
			checkBelow(t, y, y, true)
		}
	}
	around(func(put func(x api.Type) api.Type) {
		checkBelow(t, put(v), put(v), true)
		checkNeither(t, put(v), put(w))
		checkNeither(t, put(v), put(i))
		checkLess(t, put(v), put(d))
		checkLess(t, put(w), d)
	})
	checkNeither(t, fun(v, w), fun(w, v))
	checkNeither(t, fun(v, v), fun(v, w))
	checkLess(t, fun(v, w), fun(d, w))
	checkLess(t, pair(v, list(w)), pair(v, list(d)))
}

func TestKidsOneByOne(t *testing.T) {
	same := [][2]api.Type{{i, i}, {d, d}, {v, v}, {list(d), list(d)}, {fun(d, i), fun(d, i)}}
	less := [][2]api.Type{{i, d}, {v, d}, {list(i), list(d)}, {fun(i, i), fun(d, i)}, {fun(i, i), fun(i, d)}, {pair(v, d), d}}
	neither := [][2]api.Type{{i, b}, {v, w}, {v, i}, {list(i), list(b)}, {pair(i, i), fun(i, i)}, {list(d), i}, {pair(i, d), pair(d, i)}}
	for _, kind := range []int{api.TPair, api.TFun} {
		both := func(x, y [2]api.Type) (api.Type, api.Type) { return node(kind, x[0], y[0]), node(kind, x[1], y[1]) }
		check := func(x, y [2]api.Type, there, back bool) {
			t.Helper()
			a, b := both(x, y)
			checkOrders(t, a, b, there, back)
			a, b = both(y, x)
			checkOrders(t, a, b, there, back)
		}
		for _, x := range same {
			for _, y := range same {
				check(x, y, true, true)
			}
			for _, y := range less {
				check(x, y, true, false)
			}
			for _, y := range neither {
				check(x, y, false, false)
			}
		}
		for _, x := range less {
			for _, y := range less {
				check(x, y, true, false)
				check(x, [2]api.Type{y[1], y[0]}, false, false)
			}
			for _, y := range neither {
				check(x, y, false, false)
			}
		}
		for _, x := range neither {
			for _, y := range neither {
				check(x, y, false, false)
			}
		}
	}
	for _, x := range same {
		checkOrders(t, list(x[0]), list(x[1]), true, true)
	}
	for _, x := range less {
		checkLess(t, list(x[0]), list(x[1]))
	}
	for _, x := range neither {
		checkNeither(t, list(x[0]), list(x[1]))
	}
}

// The arguments of functions are compared in the order of their results, unlike
// in a subtype relation, however deep they are.
func TestArgumentsOfFunctions(t *testing.T) {
	x, y := i, d
	for range 5 {
		x, y = fun(x, b), fun(y, b)
		checkLess(t, x, y)
		checkLess(t, fun(x, x), fun(y, y))
		checkNeither(t, fun(x, y), fun(y, x))
	}
}

// P9.1: which types have which ground.

func TestGroundOfEachKind(t *testing.T) {
	for _, x := range []api.Type{i, b, s, u} {
		checkGround(t, x, text(x))
	}
	checkGround(t, d, "")
	checkGround(t, v, "")
	for _, x := range []api.Type{i, b, s, u, d, v, pair(i, b), list(s), fun(u, i)} {
		checkGround(t, list(x), text(list(d)))
		for _, y := range []api.Type{i, b, s, u, d, v, pair(i, b), list(s), fun(u, i)} {
			checkGround(t, pair(x, y), text(pair(d, d)))
			checkGround(t, fun(x, y), text(fun(d, d)))
		}
	}
}

func TestNoGround(t *testing.T) {
	checkGround(t, d, "")
	for _, n := range []int{0, 1, 5, 256, api.MaxVar} {
		checkGround(t, variable(n), "")
	}
}

func TestGroundsOfSmallTypes(t *testing.T) {
	for _, x := range append(rightTypes(5, i, d, v), rightTypes(3, i, b, s, u, d, v, w)...) {
		checkGround(t, x, groundText(x))
		if ground, ok := Ground(x); ok {
			checkBelow(t, x, ground, true)
			checkGround(t, ground, text(ground))
		}
	}
}

// P9.1: types that are not right.

// wrongTypes are types that are not right, in each field.
func wrongTypes() []api.Type {
	l := []api.Type{
		{}, {N: 1}, node(0, i), node(0, i, i),
		leaf(-1), leaf(10), node(10, i, i), leaf(math.MinInt), leaf(math.MaxInt), leaf(256 + api.TInt), leaf(1<<32 + api.TDyn),
		variable(-1), variable(api.MaxVar + 1), variable(math.MinInt), variable(math.MaxInt), variable(1 << 32),
		node(api.TVar, i), node(api.TVar, d, d),
		leaf(api.TPair), node(api.TPair, i), node(api.TPair, i, i, i), node(api.TPair, d, d, d),
		leaf(api.TFun), node(api.TFun, i), node(api.TFun, i, i, i), node(api.TFun, d, d, d),
		leaf(api.TList), node(api.TList, i, i), node(api.TList, d, d, d),
	}
	for _, n := range []int{-1, 1, 5, math.MinInt, math.MaxInt} {
		l = append(l, api.Type{Kind: api.TPair, N: n, Kids: []api.Type{i, i}},
			api.Type{Kind: api.TFun, N: n, Kids: []api.Type{i, i}},
			api.Type{Kind: api.TList, N: n, Kids: []api.Type{i}})
	}
	for _, x := range []api.Type{i, b, s, u, d} {
		for _, n := range []int{-1, 1, math.MinInt, math.MaxInt, 1 << 32} {
			l = append(l, api.Type{Kind: x.Kind, N: n})
		}
		l = append(l, node(x.Kind, i), node(x.Kind, d), node(x.Kind, i, i), node(x.Kind, api.Type{}))
	}
	return l
}

func TestTypesThatAreNotRight(t *testing.T) {
	for _, x := range wrongTypes() {
		// What x could be taken for, if a field was not looked at.
		like := []api.Type{x, d, i, leaf(x.Kind), {Kind: x.Kind, N: x.N}, node(x.Kind, i), node(x.Kind, i, i), node(x.Kind, x.Kids...)}
		for _, y := range like {
			checkNeither(t, x, y)
		}
		checkGround(t, x, "")
		around(func(put func(x api.Type) api.Type) {
			checkNeither(t, put(x), d)
			checkNeither(t, put(x), put(d))
			for _, y := range like {
				checkNeither(t, put(x), put(y))
			}
			checkGround(t, put(x), "")
		})
	}
}

func TestAWrongTypeBesideOtherKids(t *testing.T) {
	for _, x := range wrongTypes() {
		checkNeither(t, pair(i, x), pair(b, x))
		checkNeither(t, pair(i, x), pair(i, d))
		checkNeither(t, fun(x, i), fun(d, b))
		checkNeither(t, fun(x, i), fun(d, i))
		checkNeither(t, pair(d, x), pair(v, d))
		checkNeither(t, list(pair(x, x)), list(d))
	}
}

// changes calls f for t with each change at one of its nodes.
func changes(t api.Type, f func(api.Type)) {
	with := func(change func(*api.Type)) {
		x := t
		change(&x)
		f(x)
	}
	for kind := range 11 {
		with(func(x *api.Type) { x.Kind = kind })
	}
	for _, n := range []int{-1, 1, 1 << 32} {
		with(func(x *api.Type) { x.N += n })
	}
	with(func(x *api.Type) { x.Kids = append(slices.Clip(x.Kids), i) })
	with(func(x *api.Type) { x.Kids = append([]api.Type{d}, x.Kids...) })
	with(func(x *api.Type) { *x = list(*x) })
	with(func(x *api.Type) { *x = d })
	for k := range t.Kids {
		with(func(x *api.Type) { x.Kids = slices.Delete(slices.Clone(x.Kids), k, k+1) })
		with(func(x *api.Type) { *x = x.Kids[k] })
		changes(t.Kids[k], func(kid api.Type) {
			with(func(x *api.Type) {
				x.Kids = slices.Clone(x.Kids)
				x.Kids[k] = kid
			})
		})
	}
}

func TestOneChange(t *testing.T) {
	for _, x := range []api.Type{
		i, d, v,
		fun(pair(i, d), list(v)),
		pair(fun(d, w), fun(list(s), d)),
		list(pair(list(fun(d, u)), pair(b, w))),
		fun(fun(fun(d, i), d), pair(v, pair(d, d))),
	} {
		changes(x, func(y api.Type) {
			checkAny(t, x, y)
			want := ""
			if typ.Check(y) == api.OK {
				want = groundText(y)
			}
			checkGround(t, y, want)
			changes(y, func(z api.Type) { checkAny(t, x, z) })
		})
	}
}

// P9.2: what follows.

// order returns which of some types are below which.
func order(l []api.Type) [][]bool {
	var rows [][]bool
	for _, x := range l {
		var row []bool
		for _, y := range l {
			row = append(row, Below(x, y))
		}
		rows = append(rows, row)
	}
	return rows
}

func TestBelowIsAPartialOrder(t *testing.T) {
	l := rightTypes(4, i, b, d, v)
	below := order(l)
	for x := range l {
		checkBelow(t, l[x], l[x], true)
		for y := range l {
			if x != y && below[x][y] && below[y][x] {
				t.Errorf("%s and %s are below each other", text(l[x]), text(l[y]))
			}
			for z := range l {
				if below[x][y] && below[y][z] && !below[x][z] {
					t.Errorf("%s is below %s, but not below %s", text(l[x]), text(l[y]), text(l[z]))
				}
			}
		}
	}
}

func TestTheMeetIsTheGreatestTypeBelowBoth(t *testing.T) {
	l := rightTypes(4, i, b, d)
	all := append(slices.Clone(l), rightTypes(4, i, v)...)
	for _, x := range l {
		for _, y := range l {
			meet, ok := agree.Meet(x, y)
			if ok {
				checkBelow(t, meet, x, true)
				checkBelow(t, meet, y, true)
			}
			for _, z := range all {
				both := Below(z, x) && Below(z, y)
				if both && !ok {
					t.Errorf("%s is below %s and %s, which do not agree", text(z), text(x), text(y))
				}
				if ok {
					checkBelow(t, z, meet, both)
				}
			}
		}
	}
}

func TestMeetsOfLargerTypes(t *testing.T) {
	for _, c := range [][3]api.Type{
		{fun(i, d), fun(d, b), fun(i, b)},
		{pair(d, list(i)), pair(fun(i, d), d), pair(fun(i, d), list(i))},
		{fun(fun(d, i), d), fun(fun(b, d), list(d)), fun(fun(b, i), list(d))},
		{pair(pair(d, i), pair(b, d)), pair(pair(s, d), pair(d, u)), pair(pair(s, i), pair(b, u))},
	} {
		checkNeither(t, c[0], c[1])
		checkLess(t, c[2], c[0])
		checkLess(t, c[2], c[1])
		changes(c[2], func(z api.Type) {
			checkBelow(t, z, c[2], Below(z, c[0]) && Below(z, c[1]))
		})
	}
}

// A type with variables has types above it that do not agree with it.
func TestTypesWithVariablesNeedNotAgree(t *testing.T) {
	for _, x := range []api.Type{v, list(v), pair(v, i), fun(d, w)} {
		checkLess(t, x, d)
		if agree.Agree(x, d) {
			t.Error(text(x))
		}
	}
}

// The rules: every call ends, arguments stay as they are, results hang on them only.

// chain returns x below so many nodes, one by one.
func chain(depth int, down func(x api.Type) api.Type, x api.Type) api.Type {
	for range depth {
		x = down(x)
	}
	return x
}

// checkLarge is checkOrders for types whose texts are too long.
func checkLarge(t *testing.T, x, y api.Type, there, back bool) {
	t.Helper()
	if Below(x, y) != there || Below(y, x) != back {
		t.Errorf("another result than %v and %v", there, back)
	}
}

func TestTypesThatAreDeep(t *testing.T) {
	// A function that calls itself for each kid would need more than this.
	defer debug.SetMaxStack(debug.SetMaxStack(4 << 20))
	const depth = 1 << 16
	for _, down := range []func(x api.Type) api.Type{
		list,
		func(x api.Type) api.Type { return pair(x, d) },
		func(x api.Type) api.Type { return pair(i, x) },
		func(x api.Type) api.Type { return fun(x, list(i)) },
		func(x api.Type) api.Type { return fun(d, x) },
	} {
		build := func(x api.Type) api.Type { return chain(depth, down, x) }
		checkLarge(t, build(i), build(i), true, true)
		checkLarge(t, build(d), build(d), true, true)
		checkLarge(t, build(v), build(v), true, true)
		checkLarge(t, build(i), build(d), true, false)
		checkLarge(t, build(v), build(d), true, false)
		checkLarge(t, build(i), d, true, false)
		checkLarge(t, build(v), d, true, false)
		checkLarge(t, list(build(b)), list(d), true, false)
		checkLarge(t, build(i), build(b), false, false)
		checkLarge(t, build(v), build(w), false, false)
		checkLarge(t, chain(depth+9, down, i), build(d), true, false)
		checkLarge(t, build(d), chain(depth/2, down, d), true, false)
		checkLarge(t, build(i), chain(depth+1, down, i), false, false)
		checkLarge(t, build(api.Type{}), build(api.Type{}), false, false)
		checkLarge(t, build(variable(-1)), d, false, false)
		ground := node(down(d).Kind, slices.Repeat([]api.Type{d}, len(down(d).Kids))...)
		checkGround(t, build(i), text(ground))
		checkGround(t, build(v), text(ground))
		if g, ok := Ground(build(variable(-1))); ok || text(g) != text(api.Type{}) {
			t.Error("a type that is not right has a ground")
		}
	}
}

func TestTypesOfManyParts(t *testing.T) {
	const parts = 1 << 14
	grow := func(first api.Type) func(x api.Type) api.Type {
		return func(x api.Type) api.Type { return pair(first, x) }
	}
	part := fun(list(i), pair(b, list(s)))
	dyns, types := chain(parts, grow(d), i), chain(parts, grow(part), i)
	checkLarge(t, types, dyns, true, false)
	checkLarge(t, types, types, true, true)
	checkLarge(t, chain(parts, grow(fun(list(i), pair(b, list(v)))), i), dyns, true, false)
	checkLarge(t, chain(parts-1, grow(part), i), dyns, false, false)
	checkLarge(t, chain(parts-1, grow(part), pair(part, d)), types, false, true)
	checkLarge(t, chain(parts-1, grow(part), pair(b, i)), types, false, false)
}

func TestWrongTypesThatAreWide(t *testing.T) {
	kids := slices.Repeat([]api.Type{i}, 1<<16)
	for kind := range 11 {
		x := node(kind, kids...)
		checkLarge(t, x, x, false, false)
		checkLarge(t, x, d, false, false)
		checkLarge(t, list(x), list(d), false, false)
		if ground, ok := Ground(x); ok || text(ground) != text(api.Type{}) {
			t.Error("a type that is not right has a ground", kind)
		}
	}
}

func TestSharedParts(t *testing.T) {
	build := func(x api.Type) api.Type {
		for k := range 16 {
			x = node([]int{api.TPair, api.TFun}[k%2], x, x)
		}
		return x
	}
	checkLarge(t, build(i), build(d), true, false)
	checkLarge(t, build(list(fun(i, d))), build(list(d)), true, false)
	checkLarge(t, build(v), build(v), true, true)
	checkLarge(t, build(v), build(d), true, false)
	checkLarge(t, build(i), build(b), false, false)
	// One place differs from all others that the same part has.
	x := build(i)
	x.Kids = []api.Type{x.Kids[0], build(d).Kids[1]}
	checkLarge(t, x, build(i), false, true)
	checkLarge(t, x, build(d), true, false)
	checkLarge(t, x, build(b), false, false)
	// A type beside a part of itself.
	self := pair(pair(d, d), pair(d, d))
	checkLess(t, self, self.Kids[0])
}

// spare returns t with two further types behind each list of kids.
func spare(t api.Type) api.Type {
	l := make([]api.Type, 0, len(t.Kids)+2)
	for _, kid := range t.Kids {
		l = append(l, spare(kid))
	}
	t.Kids = append(l, d, variable(-9))[:len(t.Kids)]
	return t
}

// whole is the text of t with what lies behind its lists of kids.
func whole(t api.Type) string {
	s := fmt.Sprintf("<%d.%d %d %d", t.Kind, t.N, len(t.Kids), cap(t.Kids))
	for _, kid := range t.Kids[:cap(t.Kids)] {
		s += whole(kid)
	}
	return s + ">"
}

func TestArgumentsAreNotChanged(t *testing.T) {
	l := append(rightTypes(4, i, b, d, v), wrongTypes()...)
	for k := 0; k < len(l); k += 3 {
		x := spare(l[k])
		wholeX := whole(x)
		Ground(x)
		for j := 0; j < len(l); j += 2 {
			y := spare(l[j])
			wholeY := whole(y)
			checkAny(t, x, y)
			if whole(x) != wholeX || whole(y) != wholeY {
				t.Fatalf("%s or %s is changed", text(l[k]), text(l[j]))
			}
		}
	}
}

func TestArgumentsThatShareMemory(t *testing.T) {
	// The kids of one type lie behind those of another one.
	memory := []api.Type{i, d, list(d), d}
	x := api.Type{Kind: api.TPair, Kids: memory[:2]}
	y := api.Type{Kind: api.TPair, Kids: memory[1:3]}
	z := api.Type{Kind: api.TPair, Kids: memory[2:4]}
	before := fmt.Sprint(memory)
	checkNeither(t, x, y)
	checkNeither(t, y, z)
	checkNeither(t, x, z)
	checkLess(t, x, api.Type{Kind: api.TPair, Kids: []api.Type{d, d}})
	checkLess(t, pair(x, y), pair(x, d))
	checkGround(t, x, text(pair(d, d)))
	checkGround(t, z, text(pair(d, d)))
	if fmt.Sprint(memory) != before {
		t.Error("changed")
	}
}

func TestNilAndEmptyKids(t *testing.T) {
	for _, x := range []api.Type{i, b, s, u, d, v} {
		y := api.Type{Kind: x.Kind, N: x.N, Kids: []api.Type{}}
		checkOrders(t, x, y, true, true)
		checkOrders(t, list(x), list(y), true, true)
		checkBelow(t, y, d, true)
		checkBelow(t, y, i, x.Kind == api.TInt)
		checkGround(t, y, groundText(x))
	}
	checkNeither(t, api.Type{Kind: api.TPair, Kids: []api.Type{}}, leaf(api.TPair))
	checkGround(t, api.Type{Kind: api.TPair, Kids: []api.Type{}}, "")
}

// Whatever is done to a ground, later ones and the argument stay as they are.
func TestGroundsAreNewMemory(t *testing.T) {
	for _, x := range []api.Type{i, u, pair(d, d), list(d), fun(d, d), pair(i, b), list(s), fun(v, u)} {
		x = spare(x)
		before := whole(x)
		ground, _ := Ground(x)
		kids := ground.Kids[:cap(ground.Kids)]
		for k := range kids {
			kids[k] = s
		}
		if whole(x) != before {
			t.Error("changed through its ground:", before)
		}
		checkGround(t, x, groundText(x))
		checkGround(t, node(x.Kind, slices.Clone(x.Kids)...), groundText(x))
	}
}

func TestResultsDoNotHangOnEarlierCalls(t *testing.T) {
	x, y := fun(list(i), pair(v, b)), fun(list(d), pair(v, d))
	for range 3 {
		checkLess(t, x, y)
		checkNeither(t, x, fun(list(b), pair(v, d)))
		checkNeither(t, x, node(api.TFun, i))
		checkGround(t, x, text(fun(d, d)))
		checkGround(t, d, "")
		checkGround(t, list(x), text(list(d)))
	}
}

// fuzzed builds a type from bytes: a kind, and how far it is from a right one.
func fuzzed(b *[]byte, depth int) api.Type {
	if len(*b) == 0 {
		return d
	}
	head := int((*b)[0])
	*b = (*b)[1:]
	x := leaf(head%10 + head/250)
	kids := 0
	switch {
	case x.Kind == api.TVar:
		x.N = head / 10 % 3
	case x.Kind == api.TList:
		kids = 1
	case x.Kind == api.TPair || x.Kind == api.TFun:
		kids = 2
	}
	if head > 240 {
		x.N, kids = head%3-1, head%4
	}
	if depth == 0 {
		return x
	}
	for range kids {
		x.Kids = append(x.Kids, fuzzed(b, depth-1))
	}
	return x
}

// rougher returns t with a ? at each node whose bit is set, counted in the order
// of the tree.
func rougher(t api.Type, bits *uint) api.Type {
	here := *bits & 1
	*bits >>= 1
	if here == 1 {
		return d
	}
	var kids []api.Type
	for _, kid := range t.Kids {
		kids = append(kids, rougher(kid, bits))
	}
	t.Kids = kids
	return t
}

func FuzzBelow(f *testing.F) {
	f.Add([]byte{9, 1, 5}, []byte{9, 5, 2}, uint(2))
	f.Add([]byte{7, 5, 6}, []byte{7, 8, 8, 1, 6}, uint(0))
	f.Add([]byte{9, 7, 5, 16, 8, 5}, []byte{9, 7, 4, 16, 5}, uint(5))
	f.Add([]byte{5}, []byte{9, 7, 1, 2, 8, 6}, uint(1))
	f.Add([]byte{7, 1, 241}, []byte{7, 1, 5}, uint(4))
	f.Fuzz(func(t *testing.T, a, b []byte, bits uint) {
		x, y := fuzzed(&a, 6), fuzzed(&b, 6)
		checkAny(t, x, y)
		checkAny(t, x, x)
		checkAny(t, d, y)
		if typ.Check(x) != api.OK {
			checkGround(t, x, "")
			return
		}
		checkGround(t, x, groundText(x))
		z := rougher(x, &bits)
		checkOrders(t, x, z, true, typ.Same(x, z))
	})
}
