package typ

import (
	"fmt"
	"math"
	"regexp"
	"runtime/debug"
	"slices"
	"strconv"
	"strings"
	"testing"

	"surety/api"
)

// The tests hold the functions against the text of a tree: each node is
// <kind.N and its kids>. Everything that the chapter says of a type can be
// told from that text, in another way than the program tells it.
func text(t api.Type) string {
	var b strings.Builder
	fmt.Fprintf(&b, "<%d.%d", t.Kind, t.N)
	for _, kid := range t.Kids {
		b.WriteString(text(kid))
	}
	b.WriteString(">")
	return b.String()
}

var (
	leafShape = regexp.MustCompile(`<[1-5]\.0>`)
	varShape  = regexp.MustCompile(`<6\.(\d+)>`)
	nodeShape = regexp.MustCompile(`<(7\.0RR|8\.0R|9\.0RR)>`)
	anyVar    = regexp.MustCompile(`<6\.(-?\d+)`)
)

// wantRight replaces right types in the text by R, from the leaves on.
func wantRight(s string) bool {
	s = leafShape.ReplaceAllString(s, "R")
	s = varShape.ReplaceAllStringFunc(s, func(v string) string {
		if n, err := strconv.Atoi(v[3 : len(v)-1]); err == nil && n <= 1048576 {
			return "R"
		}
		return v
	})
	for before := ""; before != s; {
		before, s = s, nodeShape.ReplaceAllString(s, "R")
	}
	return s == "R"
}

func wantDepth(s string) int {
	open, greatest := 0, 0
	for _, c := range s {
		switch c {
		case '<':
			open++
		case '>':
			open--
		}
		greatest = max(greatest, open)
	}
	return greatest
}

func wantVars(s string) []int {
	var l []int
	for _, found := range anyVar.FindAllStringSubmatch(s, -1) {
		n, _ := strconv.Atoi(found[1])
		if !slices.Contains(l, n) {
			l = append(l, n)
		}
	}
	return l
}

// results are the results of all functions of one type.
type results struct {
	check          api.Errno
	size, depth    int
	static, closed bool
	vars           string
}

func resultsOf(t api.Type) results {
	return results{Check(t), Size(t), Depth(t), Static(t), Closed(t), fmt.Sprint(Vars(t))}
}

func wantResults(s string) results {
	want := results{
		size:   strings.Count(s, "<"),
		depth:  wantDepth(s),
		static: !strings.Contains(s, "<5."),
		closed: !strings.Contains(s, "<6."),
		vars:   fmt.Sprint(wantVars(s)),
	}
	if !wantRight(s) {
		want.check = api.ErrArg
	}
	return want
}

func checkType(t *testing.T, x api.Type) {
	t.Helper()
	s := text(x)
	if got, want := resultsOf(x), wantResults(s); got != want {
		t.Errorf("%.200s: %+v, want %+v", s, got, want)
	}
}

func checkSame(t *testing.T, x, y api.Type, want bool) {
	t.Helper()
	if Same(x, y) != want || Same(y, x) != want {
		t.Errorf("Same of %.200s and %.200s is not %v", text(x), text(y), want)
	}
}

func leaf(kind int) api.Type { return api.Type{Kind: kind} }

func variable(n int) api.Type { return api.Type{Kind: api.TVar, N: n} }

func node(kind int, kids ...api.Type) api.Type { return api.Type{Kind: kind, Kids: kids} }

func baseTypes() []api.Type {
	return []api.Type{leaf(api.TInt), leaf(api.TBool), leaf(api.TStr), leaf(api.TUnit)}
}

// kinds are all kinds and some numbers that are none.
func kinds() []int {
	return []int{math.MinInt, -7, -1, 0, 1, 2, 3, 4, 5, 6, 7, 8, 9, 10, 11, 16, 77, 256 + api.TInt, 1<<32 + api.TVar, math.MaxInt}
}

// numbers are the edges of N, right or not.
func numbers() []int {
	return []int{math.MinInt, -api.MaxVar, -1, 0, 1, 2, api.MaxVar - 1, api.MaxVar, api.MaxVar + 1, 1 << 32, math.MaxInt}
}

// kidLists calls f for each list of at most longest types of the pool.
func kidLists(pool []api.Type, longest int, f func(kids []api.Type)) {
	var extend func(kids []api.Type)
	extend = func(kids []api.Type) {
		f(kids)
		if len(kids) == longest {
			return
		}
		for _, kid := range pool {
			extend(append(slices.Clip(kids), kid))
		}
	}
	extend(nil)
}

// leaves are types without kids of every kind and number.
func leaves() []api.Type {
	var l []api.Type
	for _, kind := range kinds() {
		for _, n := range numbers() {
			l = append(l, api.Type{Kind: kind, N: n})
		}
	}
	return l
}

// lowTypes are types of every kind whose kids are leaves, right or not.
func lowTypes() []api.Type {
	pool := []api.Type{leaf(api.TInt), leaf(api.TDyn), variable(0), variable(api.MaxVar), variable(-1), leaf(api.TPair)}
	var l []api.Type
	for _, kind := range kinds() {
		kidLists(pool, 3, func(kids []api.Type) { l = append(l, node(kind, kids...)) })
		kidLists(pool[:2], 2, func(kids []api.Type) { l = append(l, api.Type{Kind: kind, N: 1, Kids: kids}) })
	}
	return l
}

// rightTypes are all right types of at most three levels from a few leaves.
func rightTypes() []api.Type {
	l := []api.Type{leaf(api.TInt), leaf(api.TDyn), variable(1), variable(0)}
	for range 2 {
		pool := l
		l = slices.Clone(pool[:4])
		for i, x := range pool {
			l = append(l, node(api.TList, x))
			for _, y := range pool[:min(len(pool), 14+i%4)] {
				l = append(l, node(api.TPair, x, y), node(api.TFun, y, x))
			}
		}
	}
	return l
}

// around calls f for right types in which x stands at every place.
func around(x api.Type, f func(api.Type)) {
	i, v := leaf(api.TInt), variable(3)
	for _, y := range []api.Type{node(api.TPair, x, v), node(api.TPair, i, x), node(api.TList, x), node(api.TFun, x, i), node(api.TFun, v, x), node(api.TPair, x, x)} {
		f(y)
		f(node(api.TFun, node(api.TList, v), y))
		f(node(api.TPair, y, node(api.TFun, i, v)))
		f(node(api.TList, node(api.TList, y)))
	}
}

// P3.1: Check.

func TestRightTypes(t *testing.T) {
	right := append(baseTypes(), leaf(api.TDyn))
	for n := range 100 {
		right = append(right, variable(n), variable(api.MaxVar-n))
	}
	for _, x := range right {
		if e := Check(x); e != api.OK {
			t.Errorf("%s: %v", text(x), e)
		}
		checkType(t, x)
		around(x, func(y api.Type) {
			if e := Check(y); e != api.OK {
				t.Errorf("%s: %v", text(y), e)
			}
			checkType(t, y)
		})
	}
	for _, x := range rightTypes() {
		if Check(x) != api.OK {
			t.Errorf("%s is refused", text(x))
		}
	}
}

func TestTypesThatAreNotRight(t *testing.T) {
	i := leaf(api.TInt)
	wrong := []api.Type{
		{},
		leaf(-1), leaf(10), leaf(math.MaxInt), leaf(math.MinInt),
		variable(-1), variable(api.MaxVar + 1), variable(math.MaxInt), variable(math.MinInt),
		node(api.TVar, i), {Kind: api.TVar, N: 5, Kids: []api.Type{i}},
		leaf(api.TPair), node(api.TPair, i), node(api.TPair, i, i, i),
		leaf(api.TFun), node(api.TFun, i), node(api.TFun, i, i, i),
		leaf(api.TList), node(api.TList, i, i), node(api.TList, i, i, i),
		{Kind: api.TPair, N: 1, Kids: []api.Type{i, i}},
		{Kind: api.TList, N: -1, Kids: []api.Type{i}},
		{Kind: api.TFun, N: 2, Kids: []api.Type{i, i}},
		node(0, i), node(10, i, i), node(-1, i),
	}
	for _, base := range append(baseTypes(), leaf(api.TDyn)) {
		wrong = append(wrong, node(base.Kind, i), node(base.Kind, i, i), api.Type{Kind: base.Kind, N: 1}, api.Type{Kind: base.Kind, N: -1})
	}
	for _, x := range wrong {
		if e := Check(x); e != api.ErrArg {
			t.Errorf("%s: %v", text(x), e)
		}
		checkType(t, x)
		around(x, func(y api.Type) {
			if e := Check(y); e != api.ErrArg {
				t.Errorf("%s: %v", text(y), e)
			}
			checkType(t, y)
		})
	}
}

func TestEveryKindNumberAndListOfKids(t *testing.T) {
	for _, x := range leaves() {
		checkType(t, x)
		around(x, func(y api.Type) { checkType(t, y) })
	}
	for _, x := range lowTypes() {
		checkType(t, x)
		checkType(t, node(api.TList, x))
		checkType(t, node(api.TFun, variable(2), x))
	}
	for _, x := range rightTypes() {
		checkType(t, x)
	}
}

// P3.1: Same.

func TestSameOfAllPairs(t *testing.T) {
	low := append(lowTypes(), leaves()...)
	right := rightTypes()
	var l []api.Type
	for i := 0; i < len(low); i += 17 {
		l = append(l, low[i])
	}
	for i := 0; i < len(right); i += 7 {
		l = append(l, right[i])
	}
	texts := make([]string, len(l))
	for i, x := range l {
		texts[i] = text(x)
	}
	for i, x := range l {
		for j, y := range l {
			if Same(x, y) != (texts[i] == texts[j]) {
				t.Fatalf("Same of %s and %s is %v", texts[i], texts[j], Same(x, y))
			}
		}
	}
}

// changes calls f for t with each change at one of its nodes.
func changes(t api.Type, f func(api.Type)) {
	with := func(change func(*api.Type)) {
		x := t
		change(&x)
		f(x)
	}
	with(func(x *api.Type) { x.Kind++ })
	with(func(x *api.Type) { x.Kind-- })
	with(func(x *api.Type) { x.N++ })
	with(func(x *api.Type) { x.N-- })
	with(func(x *api.Type) { x.N += 1 << 32 })
	with(func(x *api.Type) { x.Kids = append(slices.Clip(x.Kids), leaf(api.TInt)) })
	with(func(x *api.Type) { x.Kids = append([]api.Type{{}}, x.Kids...) })
	for i := range t.Kids {
		with(func(x *api.Type) { x.Kids = slices.Delete(slices.Clone(x.Kids), i, i+1) })
		changes(t.Kids[i], func(kid api.Type) {
			with(func(x *api.Type) {
				x.Kids = slices.Clone(x.Kids)
				x.Kids[i] = kid
			})
		})
	}
}

func TestOneChangeMakesAnotherType(t *testing.T) {
	right, low := rightTypes(), lowTypes()
	for i := 0; i < len(right); i += 5 {
		changes(right[i], func(y api.Type) { checkSame(t, right[i], y, false) })
	}
	for i := 0; i < len(low); i += 11 {
		changes(low[i], func(y api.Type) { checkSame(t, low[i], y, false) })
	}
}

func TestSameLooksAtTheShape(t *testing.T) {
	i, d := leaf(api.TInt), leaf(api.TDyn)
	// The nodes of both are the same in the order of the tree, apart from the lengths of their lists.
	checkSame(t, node(1, node(1, i), i), node(1, node(1, i, i)), false)
	checkSame(t, node(1, node(1), node(1)), node(1, node(1, node(1))), false)
	checkSame(t, node(api.TPair, i, d), node(api.TPair, d, i), false)
	checkSame(t, node(api.TFun, i, d), node(api.TPair, i, d), false)
	checkSame(t, variable(0), variable(1), false)
	checkSame(t, i, d, false)
	checkSame(t, api.Type{}, i, false)
	checkSame(t, api.Type{}, api.Type{}, true)
	checkSame(t, node(77, variable(-3), d), node(77, variable(-3), d), true)
}

// P3.2: the functions on types in general.

func TestExampleOfTheDocument(t *testing.T) {
	x := node(api.TFun, leaf(api.TInt), leaf(api.TDyn))
	if got, want := resultsOf(x), (results{size: 3, depth: 2, closed: true, vars: "[]"}); got != want {
		t.Errorf("%+v, want %+v", got, want)
	}
}

func TestTypesThatAreNotRightHaveNumbersToo(t *testing.T) {
	d := leaf(api.TDyn)
	for _, c := range []struct {
		t    api.Type
		want results
	}{
		{api.Type{}, results{api.ErrArg, 1, 1, true, true, "[]"}},
		{node(0, api.Type{}, node(-1, d), api.Type{}), results{api.ErrArg, 5, 3, false, true, "[]"}},
		{node(api.TDyn, leaf(api.TInt)), results{api.ErrArg, 2, 2, false, true, "[]"}},
		{api.Type{Kind: api.TDyn, N: 9}, results{api.ErrArg, 1, 1, false, true, "[]"}},
		{node(api.TVar, variable(0), variable(-1)), results{api.ErrArg, 3, 2, true, false, "[0 -1]"}},
		{api.Type{Kind: api.TVar, N: -4, Kids: []api.Type{d, variable(-4)}}, results{api.ErrArg, 3, 2, false, false, "[-4]"}},
		{variable(math.MinInt), results{api.ErrArg, 1, 1, true, false, fmt.Sprintf("[%d]", math.MinInt)}},
		{node(99, variable(math.MaxInt), variable(0), variable(math.MaxInt)), results{api.ErrArg, 4, 2, true, false, fmt.Sprintf("[%d 0]", math.MaxInt)}},
	} {
		if got := resultsOf(c.t); got != c.want {
			t.Errorf("%s: %+v, want %+v", text(c.t), got, c.want)
		}
		checkType(t, c.t)
	}
}

func TestVarsInTheOrderOfTheTree(t *testing.T) {
	v := variable
	x := node(api.TFun,
		node(api.TPair, node(api.TList, v(8)), node(api.TFun, v(3), v(8))),
		node(api.TFun, node(api.TPair, v(5), v(3)), node(api.TPair, v(0), node(api.TList, v(api.MaxVar)))))
	if got := fmt.Sprint(Vars(x)); got != "[8 3 5 0 1048576]" {
		t.Error(got)
	}
	// A node comes before its kids, even where a variable has some.
	y := api.Type{Kind: api.TVar, N: 7, Kids: []api.Type{v(6), {Kind: api.TVar, N: 5, Kids: []api.Type{v(4), v(7)}}, v(3)}}
	if got := fmt.Sprint(Vars(y)); got != "[7 6 5 4 3]" {
		t.Error(got)
	}
	// N counts for variables only.
	if l := Vars(node(api.TPair, api.Type{Kind: api.TInt, N: 4}, api.Type{Kind: api.TList, N: 6})); len(l) != 0 {
		t.Error(l)
	}
}

func TestManyVars(t *testing.T) {
	const many = 5000
	x := variable(0)
	var want []int
	for n := range many {
		number := n * 7919 % many
		x = node(api.TFun, node(api.TPair, variable(number), variable(number)), x)
		want = append(want, number)
	}
	slices.Reverse(want)
	if got := Vars(x); !slices.Equal(got, want) {
		t.Errorf("%d variables, want %d", len(got), len(want))
	}
}

// P3.3: types that are the Same.

// retold returns t built anew, each list of kids by list.
func retold(t api.Type, list func(kids []api.Type) []api.Type) api.Type {
	var kids []api.Type
	for _, kid := range t.Kids {
		kids = append(kids, retold(kid, list))
	}
	t.Kids = list(kids)
	return t
}

// waysToList are ways to lay one list of kids into memory.
func waysToList() []func(kids []api.Type) []api.Type {
	return []func(kids []api.Type) []api.Type{
		func(kids []api.Type) []api.Type { return kids },
		func(kids []api.Type) []api.Type { return append([]api.Type{}, kids...) },
		func(kids []api.Type) []api.Type {
			return append(slices.Clone(kids), leaf(api.TDyn), variable(-9))[:len(kids)]
		},
		func(kids []api.Type) []api.Type { return append([]api.Type{{}}, kids...)[1:] },
		func(kids []api.Type) []api.Type {
			for i := range kids {
				if i > 0 && text(kids[i]) == text(kids[0]) {
					kids[i] = kids[0]
				}
			}
			return kids
		},
	}
}

func TestTypesThatAreTheSameHaveTheSameResults(t *testing.T) {
	check := func(x api.Type) {
		want := resultsOf(x)
		for _, list := range waysToList() {
			y := retold(x, list)
			checkSame(t, x, y, true)
			if got := resultsOf(y); got != want {
				t.Errorf("%s: %+v, want %+v", text(x), got, want)
			}
		}
	}
	for i, l := range [][]api.Type{leaves(), lowTypes(), rightTypes()} {
		for j := 0; j < len(l); j += 1 + 6*i {
			check(l[j])
		}
	}
}

func TestNilAndEmptyKids(t *testing.T) {
	for _, x := range leaves() {
		y := x
		y.Kids = []api.Type{}
		checkSame(t, x, y, true)
		checkSame(t, node(api.TList, x), node(api.TList, y), true)
		if resultsOf(x) != resultsOf(y) {
			t.Error(text(x))
		}
	}
}

// The rules: every call ends, arguments stay as they are, results are the caller's.

// checkAll calls every function, and Same with a type that is the same.
func checkAll(t *testing.T, x, y api.Type, want results) {
	t.Helper()
	if got := resultsOf(x); got != want {
		t.Errorf("%+v, want %+v", got, want)
	}
	if !Same(x, y) || !Same(x, x) {
		t.Error("not the same")
	}
	if Same(x, node(api.TList, y)) || Same(node(api.TList, x), y) {
		t.Error("the same as a list of it")
	}
}

func TestTypesThatAreDeep(t *testing.T) {
	// A function that calls itself for each kid would need more than this.
	defer debug.SetMaxStack(debug.SetMaxStack(8 << 20))
	const depth = 1 << 18
	down := []struct {
		down func(api.Type) api.Type
		kids int
	}{
		{func(x api.Type) api.Type { return node(api.TList, x) }, 1},
		{func(x api.Type) api.Type { return node(api.TPair, x, variable(2)) }, 2},
		{func(x api.Type) api.Type { return node(api.TFun, variable(2), x) }, 2},
		{func(x api.Type) api.Type { return node(60, leaf(1), x, variable(2)) }, 3},
	}
	for i, c := range down {
		build := func(bottom int) api.Type {
			x := leaf(bottom)
			for range depth {
				x = c.down(x)
			}
			return x
		}
		want := results{size: 1 + depth*c.kids, depth: 1 + depth, closed: c.kids == 1, vars: "[2]"}
		if c.kids == 1 {
			want.vars = "[]"
		}
		if c.kids == 3 {
			want.check = api.ErrArg
		}
		x := build(api.TDyn)
		checkAll(t, x, build(api.TDyn), want)
		if Same(x, build(api.TInt)) {
			t.Error(i, "the bottom does not count")
		}
		if want.check == api.OK && (Check(build(0)) != api.ErrArg || !Static(build(api.TInt))) {
			t.Error(i, "the bottom is not looked at")
		}
	}
}

func TestTypesThatAreWide(t *testing.T) {
	const width = 1 << 16
	kids := make([]api.Type, width)
	for i := range kids {
		kids[i] = variable(i % 3)
	}
	x := node(api.TList, node(api.TPair, kids...))
	y := node(api.TList, node(api.TPair, slices.Clone(kids)...))
	checkAll(t, x, y, results{api.ErrArg, width + 2, 3, true, false, "[0 1 2]"})
	y.Kids[0].Kids[width-1].N = 9
	if Same(x, y) {
		t.Error("the last kid does not count")
	}
}

func TestSharedPartsCountEachTime(t *testing.T) {
	build := func(x api.Type) api.Type {
		for i := range 18 {
			kids := []api.Type{x, x}
			x = api.Type{Kind: []int{api.TPair, api.TFun}[i%2], Kids: kids}
		}
		return x
	}
	checkAll(t, build(variable(4)), build(variable(4)), results{api.OK, 1<<19 - 1, 19, true, false, "[4]"})
	checkAll(t, build(leaf(api.TDyn)), build(leaf(api.TDyn)), results{api.OK, 1<<19 - 1, 19, false, true, "[]"})
	if Same(build(variable(4)), build(variable(5))) || Check(build(variable(-1))) != api.ErrArg {
		t.Error("the leaves are not looked at")
	}
}

// whole is the text of t with what lies behind its lists of kids.
func whole(t api.Type) string {
	s := fmt.Sprintf("<%d.%d %d %d", t.Kind, t.N, len(t.Kids), cap(t.Kids))
	for _, kid := range t.Kids[:cap(t.Kids)] {
		s += whole(kid)
	}
	return s + ">"
}

// spare returns t with two further types behind each list of kids.
func spare(t api.Type) api.Type {
	return retold(t, func(kids []api.Type) []api.Type {
		l := make([]api.Type, 0, len(kids)+2)
		l = append(append(l, kids...), leaf(api.TDyn), variable(-9))
		return l[:len(kids)]
	})
}

func TestArgumentsAreNotChanged(t *testing.T) {
	l := append(lowTypes(), rightTypes()...)
	for i := 0; i < len(l); i += 3 {
		x, y := spare(l[i]), spare(l[i])
		before := whole(x)
		first := resultsOf(x)
		if !Same(x, y) || resultsOf(x) != first || first != wantResults(text(l[i])) {
			t.Errorf("%s: another result", text(l[i]))
		}
		if whole(x) != before || whole(y) != before {
			t.Errorf("%s is changed", text(l[i]))
		}
	}
}

func TestAListOfVarsIsTheCallers(t *testing.T) {
	x := node(api.TPair, variable(1), node(api.TList, variable(2)))
	first := Vars(x)
	second := Vars(x)
	first[0] = 77
	_ = append(first[:1], 78)
	if want := []int{1, 2}; !slices.Equal(second, want) || !slices.Equal(Vars(x), want) {
		t.Error(second, Vars(x))
	}
}

// fuzzed builds a type from bytes: a kind, a number and how many kids there are.
func fuzzed(b *[]byte, depth int) api.Type {
	if len(*b) < 3 {
		return leaf(api.TInt)
	}
	head := (*b)[:3]
	*b = (*b)[3:]
	x := api.Type{Kind: int(head[0]%12) - 1, N: numbers()[int(head[1])%len(numbers())]}
	if depth == 0 {
		return x
	}
	for range head[2] % 4 {
		x.Kids = append(x.Kids, fuzzed(b, depth-1))
	}
	return x
}

func FuzzType(f *testing.F) {
	f.Add([]byte{2, 3, 0}, []byte{2, 3, 0})
	f.Add([]byte{10, 3, 2, 2, 3, 0, 6, 3, 0}, []byte{10, 3, 2, 2, 3, 0, 7, 3, 0})
	f.Add([]byte{8, 3, 2, 9, 3, 1, 7, 7, 0, 7, 2, 0}, []byte{})
	f.Fuzz(func(t *testing.T, a, b []byte) {
		x, y := fuzzed(&a, 6), fuzzed(&b, 6)
		checkType(t, x)
		checkType(t, y)
		checkSame(t, x, y, text(x) == text(y))
		for _, list := range waysToList() {
			checkSame(t, x, retold(x, list), true)
		}
	})
}
