package agree

import (
	"fmt"
	"math"
	"runtime/debug"
	"slices"
	"strings"
	"testing"

	"surety/api"
	"surety/typ"
)

func leaf(kind int) api.Type { return api.Type{Kind: kind} }

func variable(n int) api.Type { return api.Type{Kind: api.TVar, N: n} }

func node(kind int, kids ...api.Type) api.Type { return api.Type{Kind: kind, Kids: kids} }

func pair(a, b api.Type) api.Type { return node(api.TPair, a, b) }

func fun(a, b api.Type) api.Type { return node(api.TFun, a, b) }

func list(a api.Type) api.Type { return node(api.TList, a) }

// The leaves, by short names.
var (
	i = leaf(api.TInt)
	b = leaf(api.TBool)
	s = leaf(api.TStr)
	u = leaf(api.TUnit)
	d = leaf(api.TDyn)
	v = variable(0)
	w = variable(1)
)

// text is the whole of a type: each node is <kind.N and its kids>.
func text(t api.Type) string {
	var kids strings.Builder
	for _, kid := range t.Kids {
		kids.WriteString(text(kid))
	}
	return fmt.Sprintf("<%d.%d%s>", t.Kind, t.N, kids.String())
}

// The tests hold the functions against the places of a type: which node is at
// each place, where a place is the way down to it, such as 01 for the second kid
// of the first kid. From these it can be told without going through two types at
// once what agrees, and the meet is the places of both.
type places map[string]api.Type

func placesOf(t api.Type) places {
	l := places{}
	l.add("", t)
	return l
}

func (l places) add(place string, t api.Type) {
	for k, kid := range t.Kids {
		l.add(place+string(rune('0'+k)), kid)
	}
	l[place] = api.Type{Kind: t.Kind, N: t.N}
}

// fits reports whether l has nothing that speaks against m, the places of
// another type: another node that is not ?, or a variable at or below a ?.
func (l places) fits(m places) bool {
	for place, x := range l {
		y, both := m[place]
		if both && x.Kind != api.TDyn && y.Kind != api.TDyn && (x.Kind != y.Kind || x.N != y.N) {
			return false
		}
		for end := 0; x.Kind == api.TVar && end <= len(place); end++ {
			if m[place[:end]].Kind == api.TDyn {
				return false
			}
		}
	}
	return true
}

// wantMeet returns the places of the meet of right types, if they agree.
func wantMeet(l, m places) (places, bool) {
	if !l.fits(m) || !m.fits(l) {
		return nil, false
	}
	meet := places{}
	for _, from := range []places{l, m} {
		for place, x := range from {
			if meet[place].Kind == 0 || meet[place].Kind == api.TDyn {
				meet[place] = x
			}
		}
	}
	return meet, true
}

// text is the text of the type with these places.
func (l places) text(place string) string {
	x, ok := l[place]
	if !ok {
		return ""
	}
	return fmt.Sprintf("<%d.%d%s%s>", x.Kind, x.N, l.text(place+"0"), l.text(place+"1"))
}

// checkMeet holds both functions against the text of the meet of x and y, which
// is "" if they do not agree.
func checkMeet(t *testing.T, x, y api.Type, want string) {
	t.Helper()
	if got := Agree(x, y); got != (want != "") {
		t.Errorf("Agree of %s and %s is %v", text(x), text(y), got)
	}
	meet, ok := Meet(x, y)
	if want == "" {
		want = text(api.Type{})
		if ok {
			t.Errorf("%s and %s have a meet", text(x), text(y))
		}
	} else if !ok {
		t.Errorf("%s and %s have no meet", text(x), text(y))
	}
	if text(meet) != want {
		t.Errorf("the meet of %s and %s is %s, want %s", text(x), text(y), text(meet), want)
	}
}

// checkBoth is checkMeet in both orders.
func checkBoth(t *testing.T, x, y api.Type, want string) {
	t.Helper()
	checkMeet(t, x, y, want)
	checkMeet(t, y, x, want)
}

// checkRight holds both functions against the places of two right types.
func checkRight(t *testing.T, x, y api.Type) {
	t.Helper()
	if meet, ok := wantMeet(placesOf(x), placesOf(y)); ok {
		checkBoth(t, x, y, meet.text(""))
	} else {
		checkBoth(t, x, y, "")
	}
}

// checkAny is checkRight for types that need not be right.
func checkAny(t *testing.T, x, y api.Type) {
	t.Helper()
	if typ.Check(x) == api.OK && typ.Check(y) == api.OK {
		checkRight(t, x, y)
	} else {
		checkBoth(t, x, y, "")
	}
}

// rightTypes are all right types of at most so many nodes from some leaves.
func rightTypes(most int, leaves ...api.Type) []api.Type {
	l := [][]api.Type{nil, leaves}
	for size := 2; size <= most; size++ {
		var next []api.Type
		for _, x := range l[size-1] {
			next = append(next, list(x))
		}
		for first := 1; first < size-1; first++ {
			for _, x := range l[first] {
				for _, y := range l[size-1-first] {
					next = append(next, pair(x, y), fun(x, y))
				}
			}
		}
		l = append(l, next)
	}
	return slices.Concat(l...)
}

// around calls f for a way to put a type at each place of some right types.
func around(f func(put func(x api.Type) api.Type)) {
	for _, put := range []func(x api.Type) api.Type{
		list,
		func(x api.Type) api.Type { return pair(x, i) },
		func(x api.Type) api.Type { return pair(i, x) },
		func(x api.Type) api.Type { return fun(x, i) },
		func(x api.Type) api.Type { return fun(i, x) },
	} {
		f(put)
		f(func(x api.Type) api.Type { return list(put(x)) })
		f(func(x api.Type) api.Type { return pair(put(x), list(v)) })
		f(func(x api.Type) api.Type { return pair(fun(d, b), put(x)) })
		f(func(x api.Type) api.Type { return fun(put(x), d) })
		f(func(x api.Type) api.Type { return fun(list(list(w)), put(x)) })
	}
}

// P8.1: which types agree, and their meets.

func TestExamplesOfTheDocument(t *testing.T) {
	checkBoth(t, fun(i, d), fun(d, b), text(fun(i, b)))
	checkBoth(t, variable(0), d, "")
	checkBoth(t, i, d, text(i))
	checkBoth(t, d, b, text(b))
	checkBoth(t, i, b, "")
}

func TestEachKindAgainstEachKind(t *testing.T) {
	types := []api.Type{i, b, s, u, d, v, pair(i, b), list(i), fun(i, b)}
	// For each type a row: + with itself, ? where one is ? and the other one the meet.
	rows := []string{
		"+---?----",
		"-+--?----",
		"--+-?----",
		"---+?----",
		"????+-???",
		"-----+---",
		"----?-+--",
		"----?--+-",
		"----?---+",
	}
	for k, row := range rows {
		for j, mark := range row {
			want := ""
			if mark == '+' || mark == '?' && types[j].Kind == api.TDyn {
				want = text(types[k])
			} else if mark == '?' {
				want = text(types[j])
			}
			checkMeet(t, types[k], types[j], want)
			around(func(put func(x api.Type) api.Type) {
				if want == "" {
					checkMeet(t, put(types[k]), put(types[j]), "")
				} else {
					checkMeet(t, put(types[k]), put(types[j]), strings.Replace(text(put(leaf(77))), "<77.0>", want, 1))
				}
			})
		}
	}
}

func TestKindsOfTheSameShape(t *testing.T) {
	for _, kids := range [][]api.Type{{i, i}, {d, d}, {i, b}, {v, v}, {pair(i, i), pair(i, i)}} {
		checkBoth(t, pair(kids[0], kids[1]), fun(kids[0], kids[1]), "")
		checkBoth(t, list(kids[0]), pair(kids[0], kids[1]), "")
		checkBoth(t, list(kids[0]), fun(kids[0], kids[1]), "")
	}
	for _, x := range []api.Type{i, v, list(i), list(v), pair(d, d), fun(i, d)} {
		checkBoth(t, list(x), x, "")
	}
}

func TestAllPairsOfSmallTypes(t *testing.T) {
	for _, l := range [][]api.Type{
		rightTypes(4, i, b, d, v, w),
		rightTypes(3, i, b, s, u, d, v, variable(api.MaxVar)),
		rightTypes(5, i, d),
	} {
		var all []places
		for _, x := range l {
			all = append(all, placesOf(x))
		}
		for k, x := range l {
			for j, y := range l {
				want := ""
				if meet, ok := wantMeet(all[k], all[j]); ok {
					want = meet.text("")
				}
				checkMeet(t, x, y, want)
			}
		}
	}
}

func TestDynAgainstClosedTypes(t *testing.T) {
	for _, x := range rightTypes(5, i, b, d) {
		checkBoth(t, d, x, text(x))
		checkBoth(t, list(d), list(x), text(list(x)))
		checkBoth(t, pair(d, v), pair(x, v), text(pair(x, v)))
		checkBoth(t, fun(v, d), fun(v, x), text(fun(v, x)))
	}
}

func TestDynAgainstTypesWithAVariable(t *testing.T) {
	for _, x := range []api.Type{v, variable(7), variable(api.MaxVar)} {
		checkBoth(t, d, x, "")
		around(func(put func(x api.Type) api.Type) {
			checkBoth(t, d, put(x), "")
			checkBoth(t, put(d), put(x), "")
			checkBoth(t, list(d), list(put(x)), "")
			checkBoth(t, pair(d, i), pair(put(x), i), "")
			checkBoth(t, fun(i, d), fun(i, put(x)), "")
			// Beside a type that has the variable, too, it agrees.
			checkBoth(t, put(x), put(x), text(put(x)))
		})
	}
	// The variable is only beside the ?, on one side or on the other one.
	checkBoth(t, pair(d, v), pair(i, v), text(pair(i, v)))
	checkBoth(t, pair(d, v), pair(v, d), "")
	checkBoth(t, pair(v, d), pair(v, list(v)), "")
	checkBoth(t, fun(d, fun(v, d)), fun(list(i), fun(v, u)), text(fun(list(i), fun(v, u))))
}

func TestVariables(t *testing.T) {
	numbers := []int{0, 1, 2, 255, 256, 257, 65536, api.MaxVar - 1, api.MaxVar}
	for _, n := range numbers {
		x := variable(n)
		for _, m := range numbers {
			want := ""
			if n == m {
				want = text(x)
			}
			checkMeet(t, x, variable(m), want)
		}
		for _, y := range rightTypes(3, i, b, s, u, d, variable(n+1-n%2*2)) {
			checkBoth(t, x, y, "")
		}
		for _, y := range []api.Type{list(x), pair(x, x), fun(x, x)} {
			checkBoth(t, x, y, "")
			checkBoth(t, y, y, text(y))
		}
	}
	checkBoth(t, fun(v, w), fun(w, v), "")
	checkBoth(t, fun(v, v), fun(v, w), "")
	checkBoth(t, pair(v, list(w)), pair(v, list(w)), text(pair(v, list(w))))
}

func TestOneKidThatDoesNotAgree(t *testing.T) {
	good := [][3]api.Type{{i, i, i}, {d, b, b}, {list(i), d, list(i)}, {v, v, v}, {fun(d, i), fun(s, d), fun(s, i)}}
	bad := [][2]api.Type{{i, b}, {d, v}, {v, w}, {list(i), list(b)}, {pair(i, i), fun(i, i)}, {list(d), i}, {d, list(v)}}
	for _, kind := range []int{api.TPair, api.TFun} {
		for _, x := range good {
			for _, y := range good {
				checkBoth(t, node(kind, x[0], y[0]), node(kind, x[1], y[1]), text(node(kind, x[2], y[2])))
				checkBoth(t, node(kind, x[0], y[1]), node(kind, x[1], y[0]), text(node(kind, x[2], y[2])))
			}
			for _, y := range bad {
				checkBoth(t, node(kind, x[0], y[0]), node(kind, x[1], y[1]), "")
				checkBoth(t, node(kind, y[0], x[0]), node(kind, y[1], x[1]), "")
				checkBoth(t, node(kind, y[0], x[1]), node(kind, y[1], x[0]), "")
			}
		}
		for _, x := range bad {
			checkBoth(t, node(kind, x[0], x[0]), node(kind, x[1], x[1]), "")
		}
	}
}

func TestMeetsTakeFromBoth(t *testing.T) {
	for _, c := range [][3]api.Type{
		{pair(d, list(i)), pair(fun(i, d), d), pair(fun(i, d), list(i))},
		{fun(fun(d, i), d), fun(fun(b, d), list(d)), fun(fun(b, i), list(d))},
		{list(list(d)), list(d), list(list(d))},
		{list(pair(d, d)), list(pair(d, d)), list(pair(d, d))},
		{pair(pair(d, i), pair(b, d)), pair(pair(s, d), pair(d, u)), pair(pair(s, i), pair(b, u))},
		{pair(d, fun(d, pair(v, d))), pair(list(b), fun(d, pair(v, u))), pair(list(b), fun(d, pair(v, u)))},
		{fun(list(fun(d, d)), d), fun(list(d), fun(d, i)), fun(list(fun(d, d)), fun(d, i))},
	} {
		checkBoth(t, c[0], c[1], text(c[2]))
		around(func(put func(x api.Type) api.Type) {
			checkBoth(t, put(c[0]), put(c[1]), text(put(c[2])))
		})
	}
}

// wrongTypes are types that are not right, in each field.
func wrongTypes() []api.Type {
	l := []api.Type{
		{}, {N: 1}, node(0, i), node(0, i, i),
		leaf(-1), leaf(10), node(10, i, i), leaf(math.MinInt), leaf(math.MaxInt), leaf(256 + api.TInt), leaf(1<<32 + api.TDyn),
		variable(-1), variable(api.MaxVar + 1), variable(math.MinInt), variable(math.MaxInt), variable(1 << 32),
		node(api.TVar, i), node(api.TVar, d, d),
		leaf(api.TPair), node(api.TPair, i), node(api.TPair, i, i, i), node(api.TPair, d, d, d),
		leaf(api.TFun), node(api.TFun, i), node(api.TFun, i, i, i), node(api.TFun, d, d, d),
		leaf(api.TList), node(api.TList, i, i), node(api.TList, d, d, d),
	}
	for _, n := range []int{-1, 1, 5, math.MinInt, math.MaxInt} {
		l = append(l, api.Type{Kind: api.TPair, N: n, Kids: []api.Type{i, i}},
			api.Type{Kind: api.TFun, N: n, Kids: []api.Type{i, i}},
			api.Type{Kind: api.TList, N: n, Kids: []api.Type{i}})
	}
	for _, x := range []api.Type{i, b, s, u, d} {
		for _, n := range []int{-1, 1, math.MinInt, math.MaxInt, 1 << 32} {
			l = append(l, api.Type{Kind: x.Kind, N: n})
		}
		l = append(l, node(x.Kind, i), node(x.Kind, d), node(x.Kind, i, i), node(x.Kind, api.Type{}))
	}
	return l
}

func TestTypesThatAreNotRight(t *testing.T) {
	for _, x := range wrongTypes() {
		// What x could be taken for, if a field was not looked at.
		like := []api.Type{x, d, i, leaf(x.Kind), {Kind: x.Kind, N: x.N}, node(x.Kind, i), node(x.Kind, i, i), node(x.Kind, x.Kids...)}
		for _, y := range like {
			checkBoth(t, x, y, "")
		}
		around(func(put func(x api.Type) api.Type) {
			checkBoth(t, put(x), d, "")
			checkBoth(t, put(x), i, "")
			for _, y := range like {
				checkBoth(t, put(x), put(y), "")
			}
		})
	}
}

func TestAWrongTypeBehindOneThatDoesNotAgree(t *testing.T) {
	for _, x := range wrongTypes() {
		checkBoth(t, pair(i, x), pair(b, x), "")
		checkBoth(t, pair(i, x), pair(b, d), "")
		checkBoth(t, fun(x, i), fun(d, b), "")
		checkBoth(t, pair(d, x), pair(v, d), "")
	}
}

// changes calls f for t with each change at one of its nodes.
func changes(t api.Type, f func(api.Type)) {
	with := func(change func(*api.Type)) {
		x := t
		change(&x)
		f(x)
	}
	for kind := range 11 {
		with(func(x *api.Type) { x.Kind = kind })
	}
	for _, n := range []int{-1, 1, 1 << 32} {
		with(func(x *api.Type) { x.N += n })
	}
	with(func(x *api.Type) { x.Kids = append(slices.Clip(x.Kids), i) })
	with(func(x *api.Type) { x.Kids = append([]api.Type{d}, x.Kids...) })
	with(func(x *api.Type) { *x = list(*x) })
	with(func(x *api.Type) { *x = d })
	for k := range t.Kids {
		with(func(x *api.Type) { x.Kids = slices.Delete(slices.Clone(x.Kids), k, k+1) })
		with(func(x *api.Type) { *x = x.Kids[k] })
		changes(t.Kids[k], func(kid api.Type) {
			with(func(x *api.Type) {
				x.Kids = slices.Clone(x.Kids)
				x.Kids[k] = kid
			})
		})
	}
}

func TestOneChange(t *testing.T) {
	for _, x := range []api.Type{
		i, d, v,
		fun(pair(i, d), list(v)),
		pair(fun(d, w), fun(list(s), d)),
		list(pair(list(fun(d, u)), pair(b, w))),
		fun(fun(fun(d, i), d), pair(v, pair(d, d))),
	} {
		changes(x, func(y api.Type) {
			checkAny(t, x, y)
			changes(y, func(z api.Type) { checkAny(t, x, z) })
		})
	}
}

// P8.2: what follows.

func TestAgreeingIsSymmetric(t *testing.T) {
	l := rightTypes(4, i, b, d, v)
	for _, x := range l {
		for _, y := range l {
			there, ok := Meet(x, y)
			back, okBack := Meet(y, x)
			if Agree(x, y) != Agree(y, x) || ok != okBack || text(there) != text(back) {
				t.Errorf("%s and %s: another result in the other order", text(x), text(y))
			}
		}
	}
}

func TestAgreeingIsNotTransitive(t *testing.T) {
	for _, c := range [][3]api.Type{
		{i, d, b},
		{list(i), d, i},
		{list(i), list(d), list(b)},
		{fun(i, b), fun(d, b), fun(s, b)},
		{pair(i, b), pair(i, d), pair(i, list(b))},
		{pair(i, i), d, fun(i, i)},
		{pair(v, i), pair(v, d), pair(v, b)},
	} {
		if !Agree(c[0], c[1]) || !Agree(c[1], c[2]) || Agree(c[0], c[2]) {
			t.Errorf("%s, %s, %s", text(c[0]), text(c[1]), text(c[2]))
		}
	}
}

func TestEveryRightTypeAgreesWithItself(t *testing.T) {
	for _, x := range rightTypes(5, i, d, v) {
		checkMeet(t, x, x, text(x))
	}
}

func TestAVariableAgreesWithItselfOnly(t *testing.T) {
	for _, x := range rightTypes(5, i, d, v, w) {
		if Agree(v, x) != (text(x) == text(v)) || Agree(x, w) != (text(x) == text(w)) {
			t.Error(text(x))
		}
	}
}

func TestAMeetAgreesWithBoth(t *testing.T) {
	l := rightTypes(4, i, b, d, v)
	for _, x := range l {
		for _, y := range l {
			if meet, ok := Meet(x, y); ok {
				checkBoth(t, meet, x, text(meet))
				checkBoth(t, meet, y, text(meet))
			}
		}
	}
}

// The rules: every call ends, arguments stay as they are, results hang on them only.

// chain returns x below so many nodes, one by one.
func chain(depth int, down func(x api.Type) api.Type, x api.Type) api.Type {
	for range depth {
		x = down(x)
	}
	return x
}

// checkDeep is checkMeet, in both orders, for types whose texts are too long. A
// want of the zero Type means that they do not agree.
func checkDeep(t *testing.T, x, y, want api.Type) {
	t.Helper()
	for range 2 {
		meet, ok := Meet(x, y)
		if ok != (want.Kind != 0) || Agree(x, y) != ok || !typ.Same(meet, want) {
			t.Error("another result", ok)
		}
		x, y = y, x
	}
}

func TestTypesThatAreDeep(t *testing.T) {
	// A function that calls itself for each kid would need more than this.
	defer debug.SetMaxStack(debug.SetMaxStack(4 << 20))
	const depth = 1 << 16
	for _, down := range []func(x api.Type) api.Type{
		list,
		func(x api.Type) api.Type { return pair(x, d) },
		func(x api.Type) api.Type { return pair(i, x) },
		func(x api.Type) api.Type { return fun(x, list(i)) },
		func(x api.Type) api.Type { return fun(d, x) },
	} {
		build := func(x api.Type) api.Type { return chain(depth, down, x) }
		checkDeep(t, build(i), build(i), build(i))
		checkDeep(t, build(i), build(d), build(i))
		checkDeep(t, build(d), build(d), build(d))
		checkDeep(t, build(v), build(v), build(v))
		checkDeep(t, build(i), d, build(i))
		checkDeep(t, list(d), list(build(b)), list(build(b)))
		checkDeep(t, build(d), chain(depth+9, down, i), chain(depth+9, down, i))
		checkDeep(t, build(d), chain(depth/2, down, d), build(d))
		checkDeep(t, build(i), build(b), api.Type{})
		checkDeep(t, build(v), build(w), api.Type{})
		checkDeep(t, build(v), build(d), api.Type{})
		checkDeep(t, build(v), d, api.Type{})
		checkDeep(t, build(d), chain(depth+9, down, v), api.Type{})
		checkDeep(t, build(i), chain(depth+1, down, i), api.Type{})
		checkDeep(t, build(api.Type{}), build(api.Type{}), api.Type{})
		checkDeep(t, build(variable(-1)), d, api.Type{})
	}
}

func TestManyPartsBesideDyn(t *testing.T) {
	const parts = 1 << 14
	grow := func(first api.Type) func(x api.Type) api.Type {
		return func(x api.Type) api.Type { return pair(first, x) }
	}
	part := fun(list(i), pair(b, list(s)))
	dyns, types := chain(parts, grow(d), i), chain(parts, grow(part), i)
	checkDeep(t, dyns, types, types)
	checkDeep(t, dyns, chain(parts, grow(fun(list(i), pair(b, list(v)))), i), api.Type{})
	checkDeep(t, dyns, chain(parts-1, grow(part), i), api.Type{})
	checkDeep(t, dyns, chain(parts-1, grow(part), d), chain(parts-1, grow(part), pair(d, i)))
}

func TestWrongTypesThatAreWide(t *testing.T) {
	kids := make([]api.Type, 1<<16)
	for k := range kids {
		kids[k] = i
	}
	for kind := range 11 {
		x := node(kind, kids...)
		checkDeep(t, x, x, api.Type{})
		checkDeep(t, list(x), list(d), api.Type{})
		checkDeep(t, pair(i, x), pair(b, i), api.Type{})
	}
}

func TestSharedParts(t *testing.T) {
	build := func(x api.Type) api.Type {
		for k := range 16 {
			x = node([]int{api.TPair, api.TFun}[k%2], x, x)
		}
		return x
	}
	checkDeep(t, build(d), build(i), build(i))
	checkDeep(t, build(list(d)), build(list(fun(i, d))), build(list(fun(i, d))))
	checkDeep(t, build(v), build(v), build(v))
	checkDeep(t, build(v), build(d), api.Type{})
	checkDeep(t, build(i), build(b), api.Type{})
	// One place differs from all others that the same part has.
	x := build(i)
	x.Kids = []api.Type{x.Kids[0], build(d).Kids[1]}
	checkDeep(t, x, build(i), build(i))
	checkDeep(t, x, build(b), api.Type{})
	// A type beside a part of itself.
	self := pair(d, d)
	self = pair(self, self)
	checkBoth(t, self, self.Kids[0], text(self))
	shared := []api.Type{d, i}
	checkBoth(t, api.Type{Kind: api.TPair, Kids: shared}, api.Type{Kind: api.TPair, Kids: []api.Type{{Kind: api.TFun, Kids: shared}, d}}, text(pair(fun(d, i), i)))
}

// spare returns t with two further types behind each list of kids.
func spare(t api.Type) api.Type {
	l := make([]api.Type, 0, len(t.Kids)+2)
	for _, kid := range t.Kids {
		l = append(l, spare(kid))
	}
	t.Kids = append(l, d, variable(-9))[:len(t.Kids)]
	return t
}

// whole is the text of t with what lies behind its lists of kids.
func whole(t api.Type) string {
	s := fmt.Sprintf("<%d.%d %d %d", t.Kind, t.N, len(t.Kids), cap(t.Kids))
	for _, kid := range t.Kids[:cap(t.Kids)] {
		s += whole(kid)
	}
	return s + ">"
}

func TestArgumentsAreNotChanged(t *testing.T) {
	l := append(rightTypes(4, i, b, d, v), wrongTypes()...)
	for k := 0; k < len(l); k += 3 {
		for j := 0; j < len(l); j += 2 {
			x, y := spare(l[k]), spare(l[j])
			wholeX, wholeY := whole(x), whole(y)
			checkAny(t, x, y)
			if whole(x) != wholeX || whole(y) != wholeY {
				t.Fatalf("%s or %s is changed", text(l[k]), text(l[j]))
			}
		}
	}
}

func TestArgumentsThatShareMemory(t *testing.T) {
	// The kids of one type lie behind those of another one.
	memory := []api.Type{i, d, list(d), fun(d, i)}
	x := api.Type{Kind: api.TPair, Kids: memory[:2]}
	y := api.Type{Kind: api.TPair, Kids: memory[1:3]}
	z := api.Type{Kind: api.TPair, Kids: memory[2:4]}
	before := fmt.Sprint(memory)
	checkBoth(t, x, y, text(pair(i, list(d))))
	checkBoth(t, y, z, "")
	checkBoth(t, pair(x, y), pair(y, x), text(pair(pair(i, list(d)), pair(i, list(d)))))
	checkBoth(t, z, api.Type{Kind: api.TPair, Kids: memory[1:3]}, "")
	checkBoth(t, list(z), list(d), text(list(z)))
	if fmt.Sprint(memory) != before {
		t.Error("changed")
	}
}

func TestNilAndEmptyKids(t *testing.T) {
	for _, x := range []api.Type{i, b, s, u, d, v} {
		y := api.Type{Kind: x.Kind, N: x.N, Kids: []api.Type{}}
		checkBoth(t, x, y, text(x))
		checkBoth(t, list(x), list(y), text(list(x)))
		checkAny(t, d, y)
		checkAny(t, i, y)
	}
	checkBoth(t, api.Type{Kind: api.TPair, Kids: []api.Type{}}, leaf(api.TPair), "")
}

func TestResultsDoNotHangOnEarlierCalls(t *testing.T) {
	x, y := fun(list(d), pair(v, d)), fun(list(i), pair(v, b))
	first, _ := Meet(x, y)
	before := text(first)
	checkBoth(t, x, fun(list(b), pair(v, u)), text(fun(list(b), pair(v, u))))
	checkBoth(t, x, d, "")
	checkBoth(t, first, fun(d, pair(v, d)), before)
	checkBoth(t, x, y, before)
	if text(first) != before {
		t.Error("an earlier result is changed")
	}
}

// fuzzed builds a type from bytes: a kind, and how far it is from a right one.
func fuzzed(b *[]byte, depth int) api.Type {
	if len(*b) == 0 {
		return d
	}
	head := int((*b)[0])
	*b = (*b)[1:]
	x := leaf(head%10 + head/250)
	kids := 0
	switch {
	case x.Kind == api.TVar:
		x.N = head / 10 % 3
	case x.Kind == api.TList:
		kids = 1
	case x.Kind == api.TPair || x.Kind == api.TFun:
		kids = 2
	}
	if head > 240 {
		x.N, kids = head%3-1, head%4
	}
	if depth == 0 {
		return x
	}
	for range kids {
		x.Kids = append(x.Kids, fuzzed(b, depth-1))
	}
	return x
}

func FuzzAgree(f *testing.F) {
	f.Add([]byte{9, 1, 5}, []byte{9, 5, 2})
	f.Add([]byte{7, 5, 6}, []byte{7, 8, 8, 1, 6})
	f.Add([]byte{9, 7, 5, 16, 8, 5}, []byte{9, 7, 4, 16, 5})
	f.Add([]byte{5}, []byte{9, 7, 1, 2, 8, 6})
	f.Add([]byte{7, 1, 241}, []byte{7, 1, 5})
	f.Fuzz(func(t *testing.T, a, b []byte) {
		x, y := fuzzed(&a, 6), fuzzed(&b, 6)
		checkAny(t, x, y)
		checkAny(t, x, x)
		checkAny(t, d, y)
		if meet, ok := Meet(x, y); ok {
			checkBoth(t, meet, x, text(meet))
			checkBoth(t, meet, y, text(meet))
		}
	})
}
