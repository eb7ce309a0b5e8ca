package pats

import (
	"fmt"
	"math"
	"runtime/debug"
	"slices"
	"strings"
	"testing"

	"surety/api"
	"surety/parse"
)

// Builders of types and patterns, right or not.

func leaf(kind int) api.Type { return api.Type{Kind: kind} }

func number(n int) api.Type { return api.Type{Kind: api.TVar, N: n} }

func treeOf(kind int, kids ...api.Type) api.Type { return api.Type{Kind: kind, Kids: kids} }

func pairOf(a, b api.Type) api.Type { return treeOf(api.TPair, a, b) }

func fun(a, b api.Type) api.Type { return treeOf(api.TFun, a, b) }

func list(a api.Type) api.Type { return treeOf(api.TList, a) }

// The leaves, by short names.
var (
	i = leaf(api.TInt)
	b = leaf(api.TBool)
	s = leaf(api.TStr)
	u = leaf(api.TUnit)
	d = leaf(api.TDyn)
	v = number(0)
	w = number(7)
)

func pat(kind int, kids ...api.Pat) api.Pat { return api.Pat{Kind: kind, Kids: kids} }

func named(name string) api.Pat { return api.Pat{Kind: api.PName, Name: name} }

// before is what stands ahead of a pattern in the source that has it.
const before = "match 0 with "

// read reads a pattern. Its places are those of the text behind the bytes of before.
func read(t testing.TB, text string) api.Pat {
	t.Helper()
	e, _, errno := parse.Parse([]byte(before + text + " -> 0 end"))
	if errno != api.OK {
		t.Fatalf("%s: %v", text, errno)
	}
	return e.Pats[0]
}

// text is the whole of a type: each node is <kind.N and its kids>.
func text(t api.Type) string {
	var kids strings.Builder
	for _, kid := range t.Kids {
		kids.WriteString(text(kid))
	}
	return fmt.Sprintf("<%d.%d%s>", t.Kind, t.N, kids.String())
}

// patText is the whole of a pattern.
func patText(p api.Pat) string {
	var kids strings.Builder
	for _, kid := range p.Kids {
		kids.WriteString(patText(kid))
	}
	return fmt.Sprintf("[%d %v %q %d %q%s]", p.Kind, p.At, p.Name, p.N, p.S, kids.String())
}

// trees are all trees of at most so many nodes: a leaf, a tree around one other,
// or a tree around two.
func trees[T any](most int, leaves []T, ones []func(a T) T, twos []func(a, b T) T) []T {
	l := [][]T{nil, leaves}
	for size := 2; size <= most; size++ {
		var next []T
		for _, t := range l[size-1] {
			for _, one := range ones {
				next = append(next, one(t))
			}
		}
		for left := 1; left < size-1; left++ {
			for _, t := range l[left] {
				for _, r := range l[size-1-left] {
					for _, two := range twos {
						next = append(next, two(t, r))
					}
				}
			}
		}
		l = append(l, next)
	}
	return slices.Concat(l...)
}

// rightTypes are all right types of at most so many nodes from some leaves.
func rightTypes(most int, leaves ...api.Type) []api.Type {
	return trees(most, leaves, []func(a api.Type) api.Type{list}, []func(a, b api.Type) api.Type{pairOf, fun})
}

// rightPats are all right patterns of at most so many nodes, apart from their names,
// numbers and texts. Each node has a place of its own.
func rightPats(most int) []api.Pat {
	leaves := []api.Pat{pat(api.PAny), named("x"), {Kind: api.PInt, N: -5}, {Kind: api.PBool, N: 1}, {Kind: api.PStr, S: "a"}, pat(api.PUnit), pat(api.PNil)}
	two := func(kind int) func(a, b api.Pat) api.Pat {
		return func(a, b api.Pat) api.Pat { return pat(kind, a, b) }
	}
	l := trees(most, leaves, nil, []func(a, b api.Pat) api.Pat{two(api.PPair), two(api.PCons)})
	for k := range l {
		l[k] = placed(l[k])
	}
	return l
}

// placed returns p with a place of its own for each node, and with names that are all
// different.
func placed(p api.Pat) api.Pat {
	count := 0
	var place func(p api.Pat) api.Pat
	place = func(p api.Pat) api.Pat {
		count++
		p.At = api.Span{From: 10 * count, To: 1000 - count}
		if p.Kind == api.PName {
			p.Name = fmt.Sprint("x", count)
		}
		kids := slices.Clone(p.Kids)
		for k := range kids {
			kids[k] = place(kids[k])
		}
		p.Kids = kids
		return p
	}
	return place(p)
}

// wrongTypes are types that are not right, each for one reason.
func wrongTypes() []api.Type {
	return []api.Type{
		{}, leaf(-1), leaf(10), leaf(99), leaf(256 + api.TInt), leaf(math.MinInt), leaf(math.MaxInt),
		{Kind: api.TInt, N: 1}, {Kind: api.TBool, N: -1}, {Kind: api.TStr, N: 1}, {Kind: api.TUnit, N: 1}, {Kind: api.TDyn, N: 1}, {N: 1},
		number(-1), number(api.MaxVar + 1), number(math.MinInt), number(math.MaxInt),
		treeOf(api.TInt, i), treeOf(api.TBool, i), treeOf(api.TStr, i, i), treeOf(api.TUnit, i), treeOf(api.TDyn, i), treeOf(api.TVar, i),
		treeOf(api.TPair), treeOf(api.TPair, i), treeOf(api.TPair, i, i, i), treeOf(api.TFun), treeOf(api.TFun, i), treeOf(api.TFun, i, i, i),
		treeOf(api.TList), treeOf(api.TList, i, i), {Kind: api.TList, N: 1, Kids: []api.Type{i}}, {Kind: api.TPair, N: 1, Kids: []api.Type{i, i}},
	}
}

// wrongPats are patterns that are not right, each for one reason.
func wrongPats() []api.Pat {
	x, any := named("x"), pat(api.PAny)
	return []api.Pat{
		{}, pat(-1), pat(10), pat(99), pat(256 + api.PAny), pat(math.MinInt), pat(math.MaxInt),
		named(""), named("X"), named("let"), named("_"), named("1"), named("x y"), named(strings.Repeat("x", api.MaxName+1)),
		{Kind: api.PBool, N: 2}, {Kind: api.PBool, N: -1}, {Kind: api.PStr, S: strings.Repeat("a", api.MaxStr+1)},
		{Kind: api.PAny, Name: "x"}, {Kind: api.PAny, N: 1}, {Kind: api.PUnit, S: "a"}, {Kind: api.PNil, N: 1}, {Kind: api.PInt, Name: "x"}, {Kind: api.PInt, S: "a"},
		{Kind: api.PName, Name: "x", N: 1}, {Kind: api.PName, Name: "x", S: "a"}, {Kind: api.PStr, N: 1}, {Kind: api.PBool, S: "a"},
		{Kind: api.PPair, Name: "x", Kids: []api.Pat{any, any}}, {Kind: api.PCons, N: 1, Kids: []api.Pat{any, any}},
		pat(api.PAny, any), {Kind: api.PName, Name: "x", Kids: []api.Pat{any}}, pat(api.PInt, any), pat(api.PBool, any), pat(api.PStr, any), pat(api.PUnit, any), pat(api.PNil, any, any),
		pat(api.PPair), pat(api.PPair, any), pat(api.PPair, any, any, any), pat(api.PCons), pat(api.PCons, any), pat(api.PCons, any, any, any),
		pat(api.PPair, x, x), pat(api.PCons, x, x), pat(api.PPair, pat(api.PCons, x, any), pat(api.PPair, any, x)),
	}
}

// aroundType puts a type at each kind of place within others.
func aroundType(t api.Type) []api.Type {
	return []api.Type{
		list(t), pairOf(t, i), pairOf(i, t), fun(t, i), fun(i, t), list(list(t)), pairOf(list(fun(i, t)), d), pairOf(i, pairOf(i, pairOf(t, i))),
	}
}

// aroundPat puts a pattern at each kind of place within others.
func aroundPat(p api.Pat) []api.Pat {
	any := pat(api.PAny)
	return []api.Pat{
		pat(api.PPair, p, any), pat(api.PPair, any, p), pat(api.PCons, p, any), pat(api.PCons, any, p),
		pat(api.PPair, any, pat(api.PCons, pat(api.PPair, p, any), any)), pat(api.PCons, any, pat(api.PCons, any, p)),
	}
}

// shallow makes calls that are very deep end the program.
func shallow() func() {
	before := debug.SetMaxStack(64 << 20)
	return func() { debug.SetMaxStack(before) }
}

// P14.1: Names.

func checkNames(t *testing.T, p api.Pat, want []string) {
	t.Helper()
	if got := Names(p); !slices.Equal(got, want) {
		t.Errorf("Names of %s: %q, want %q", patText(p), got, want)
	}
}

func TestNames(t *testing.T) {
	for text, want := range map[string]string{
		"x": "x", "_": "", "1": "", "~1": "", "true": "", `"x"`: "", "()": "", "[]": "",
		"(x, y)": "x y", "(y, x)": "y x", "x :: y": "x y", "y :: x": "y x", "(x, _)": "x", "(_, x)": "x", "_ :: x": "x", "x :: []": "x",
		"(x, y :: (z, 1) :: _)": "x y z", "((b, a), c)": "b a c", "(b, (a, c))": "b a c", "((a, b), (c, d))": "a b c d",
		"(d, c) :: (b, a) :: e": "d c b a e", "(a :: b :: []) :: c": "a b c", "((((z, y), x), w), v)": "z y x w v",
		`(b, ("y", (true, (f', ()))))`: "b f'",
	} {
		checkNames(t, read(t, text), strings.Fields(want))
	}
}

func TestNamesOfPatternsThatAreNotRight(t *testing.T) {
	x, y, z := named("x"), named("y"), named("z")
	inside := api.Pat{Kind: api.PName, Name: "in", Kids: []api.Pat{x, y}}
	for _, c := range []struct {
		p    api.Pat
		want []string
	}{
		{api.Pat{}, nil}, {pat(99), nil}, {pat(-1, x), []string{"x"}}, {pat(0, x, y, z), []string{"x", "y", "z"}},
		{named(""), []string{""}}, {named("let"), []string{"let"}}, {named("A b\x00\xff"), []string{"A b\x00\xff"}},
		{named(strings.Repeat("x", 1000)), []string{strings.Repeat("x", 1000)}},
		{pat(api.PPair, x, x), []string{"x", "x"}}, {pat(api.PCons, x, pat(api.PPair, y, x)), []string{"x", "y", "x"}},
		{inside, []string{"in", "x", "y"}}, {pat(api.PPair, z, inside, z), []string{"z", "in", "x", "y", "z"}},
		{pat(api.PPair, x), []string{"x"}}, {pat(api.PCons, x, y, z), []string{"x", "y", "z"}},
		{pat(api.PAny, x), []string{"x"}}, {pat(api.PInt, x), []string{"x"}}, {pat(api.PNil, x, y), []string{"x", "y"}}, {pat(api.PUnit, pat(api.PStr, pat(api.PBool, x))), []string{"x"}},
		// Only a PName has a name.
		{api.Pat{Kind: api.PAny, Name: "x"}, nil}, {api.Pat{Kind: api.PPair, Name: "p", Kids: []api.Pat{x, {Kind: api.PInt, Name: "n"}, y}}, []string{"x", "y"}},
		{api.Pat{Kind: api.PStr, S: "x"}, nil}, {api.Pat{Kind: api.PName, Name: "x", N: 5, S: "y", At: api.Span{From: -1, To: -7}}, []string{"x"}},
		{api.Pat{Name: "x"}, nil}, {api.Pat{Kind: 256 + api.PName, Name: "x"}, nil}, {api.Pat{Kind: 1<<32 + api.PName, Name: "x"}, nil}, {api.Pat{Kind: -api.PName, Name: "x"}, nil},
	} {
		checkNames(t, c.p, c.want)
	}
}

func TestNamesAgainstTheOrderOfTheTree(t *testing.T) {
	for _, p := range append(rightPats(5), wrongPats()...) {
		checkNames(t, p, namesByWords(p))
		for _, around := range aroundPat(p) {
			checkNames(t, around, namesByWords(around))
		}
	}
}

// P14.1: Bind.

// bound is what Bind comes to, as a text.
func bound(p api.Pat, t api.Type) string {
	l, e := Bind(p, t)
	return boundText(l, e)
}

func boundText(l []api.Entry, e api.Errno) string {
	var parts []string
	for _, x := range l {
		parts = append(parts, fmt.Sprintf("%q %s", x.Name, text(x.Type)))
	}
	return fmt.Sprintf("%d %s", e, strings.Join(parts, ", "))
}

// want is what Bind is to come to: names and types by turns.
func want(l ...any) string {
	var entries []api.Entry
	for k := 0; k < len(l); k += 2 {
		entries = append(entries, api.Entry{Name: l[k].(string), Type: l[k+1].(api.Type)})
	}
	return boundText(entries, api.OK)
}

var (
	wantClash = boundText(nil, api.ErrClash)
	wantArg   = boundText(nil, api.ErrArg)
)

func TestExampleOfBind(t *testing.T) {
	if got := bound(read(t, "x :: (y, 1)"), list(pairOf(b, i))); got != wantClash {
		t.Error(got)
	}
}

func TestEachPatternWithEachType(t *testing.T) {
	x := named("x")
	types := []api.Type{i, b, s, u, d, v, w, number(api.MaxVar), pairOf(b, i), pairOf(d, d), pairOf(v, list(i)), list(b), list(d), list(list(i)), list(v), fun(i, i), fun(d, d)}
	for _, c := range []struct {
		p    api.Pat
		kind int // of the types that it fits
	}{
		{api.Pat{Kind: api.PInt}, api.TInt}, {api.Pat{Kind: api.PInt, N: math.MinInt64}, api.TInt}, {api.Pat{Kind: api.PInt, N: 1}, api.TInt},
		{api.Pat{Kind: api.PBool}, api.TBool}, {api.Pat{Kind: api.PBool, N: 1}, api.TBool},
		{pat(api.PStr), api.TStr}, {api.Pat{Kind: api.PStr, S: strings.Repeat("a", api.MaxStr)}, api.TStr}, {pat(api.PUnit), api.TUnit},
		{pat(api.PPair, pat(api.PAny), pat(api.PAny)), api.TPair}, {pat(api.PCons, pat(api.PAny), pat(api.PAny)), api.TList}, {pat(api.PNil), api.TList},
	} {
		for _, x := range types {
			expected := wantClash
			if x.Kind == c.kind {
				expected = want()
			}
			if got := bound(c.p, x); got != expected {
				t.Errorf("%s with %s: %s", patText(c.p), text(x), got)
			}
		}
	}
	for _, y := range types {
		if got := bound(x, y); got != want("x", y) {
			t.Errorf("x with %s: %s", text(y), got)
		}
		if got := bound(pat(api.PAny), y); got != want() {
			t.Errorf("_ with %s: %s", text(y), got)
		}
	}
}

func TestBind(t *testing.T) {
	ints := list(i)
	for _, c := range []struct {
		p    string
		t    api.Type
		want string
	}{
		{"(x, y)", pairOf(i, b), want("x", i, "y", b)}, {"(y, x)", pairOf(i, b), want("y", i, "x", b)},
		{"(x, y)", pairOf(d, v), want("x", d, "y", v)}, {"(x, _)", pairOf(list(d), fun(i, b)), want("x", list(d))}, {"(_, x)", pairOf(list(d), fun(i, b)), want("x", fun(i, b))},
		{"(x, y)", fun(i, b), wantClash}, {"(x, y)", list(pairOf(i, b)), wantClash}, {"(x, y)", d, wantClash}, {"(x, y)", v, wantClash},
		{"x :: y", ints, want("x", i, "y", ints)}, {"y :: x", ints, want("y", i, "x", ints)}, {"x :: y", list(ints), want("x", ints, "y", list(ints))},
		{"x :: y", list(d), want("x", d, "y", list(d))}, {"x :: y", list(v), want("x", v, "y", list(v))}, {"x :: y :: z", list(w), want("x", w, "y", w, "z", list(w))},
		{"x :: []", list(fun(i, d)), want("x", fun(i, d))}, {"_ :: x", ints, want("x", ints)}, {"_ :: _ :: _ :: x", ints, want("x", ints)},
		{"x :: y", pairOf(i, ints), wantClash}, {"x :: y", i, wantClash}, {"x :: y", d, wantClash}, {"[]", d, wantClash}, {"[]", v, wantClash},
		{"(x :: y) :: z", list(ints), want("x", i, "y", ints, "z", list(ints))}, {"(x :: y) :: z", ints, wantClash}, {"x :: (y, z)", ints, wantClash},
		{"[] :: x", list(ints), want("x", list(ints))}, {"[] :: x", ints, wantClash}, {"1 :: 2 :: []", ints, want()}, {"1 :: true :: []", ints, wantClash},
		{"(a, b) :: (c, d) :: e", list(pairOf(i, b)), want("a", i, "b", b, "c", i, "d", b, "e", list(pairOf(i, b)))},
		{"((a, b), (c, d))", pairOf(pairOf(i, b), pairOf(s, u)), want("a", i, "b", b, "c", s, "d", u)},
		{"((a, b), c)", pairOf(pairOf(i, b), pairOf(s, u)), want("a", i, "b", b, "c", pairOf(s, u))}, {"(a, (b, c))", pairOf(pairOf(i, b), pairOf(s, u)), want("a", pairOf(i, b), "b", s, "c", u)},
		{"(x :: y, (1, z))", pairOf(list(fun(i, i)), pairOf(i, v)), want("x", fun(i, i), "y", list(fun(i, i)), "z", v)},
		{`(1, (true, ("a", ((), x))))`, pairOf(i, pairOf(b, pairOf(s, pairOf(u, d)))), want("x", d)},
	} {
		if got := bound(read(t, c.p), c.t); got != c.want {
			t.Errorf("%s with %s: %s, want %s", c.p, text(c.t), got, c.want)
		}
	}
}

func TestBindWithOneKidThatDoesNotFit(t *testing.T) {
	const fits = `(a, (1 :: b, ((true, "s"), ((), c :: (2, d) :: e))))`
	whole := pairOf(d, pairOf(list(i), pairOf(pairOf(b, s), pairOf(u, list(pairOf(i, v))))))
	if got, expected := bound(read(t, fits), whole), want("a", d, "b", list(i), "c", pairOf(i, v), "d", v, "e", list(pairOf(i, v))); got != expected {
		t.Fatalf("%s: %s, want %s", fits, got, expected)
	}
	for _, change := range [][2]string{
		{"(a, (1", "(1, (1"}, {"1 :: b", "() :: b"}, {"1 :: b", "1"}, {"1 :: b", "(1, b)"}, {"1 :: b", "1 :: 1"}, {"true", "1"}, {"true", `""`}, {`"s"`, "()"}, {`"s"`, "[]"},
		{`(true, "s")`, "true"}, {`(true, "s")`, `true :: "s"`}, {`(true, "s")`, "[]"}, {"((), ", "([], "}, {"((), ", "(true, "}, {"((), ", "((_, _), "},
		{"c ::", "1 ::"}, {"c ::", "[] ::"}, {"(2, d)", "(true, d)"}, {"(2, d)", "((), d)"}, {"(2, d)", "(2, 2)"}, {"(2, d)", "(2, [])"}, {"(2, d)", "(2, (d, d'))"}, {"(2, d)", "2"}, {"(2, d)", "[]"},
		{":: e", ":: (e, _)"}, {":: e", ":: ()"}, {":: e", ":: 1"},
	} {
		p := strings.Replace(fits, change[0], change[1], 1)
		if p == fits {
			t.Fatal(change)
		}
		if got := bound(read(t, p), whole); got != wantClash {
			t.Errorf("%s: %s", p, got)
		}
	}
}

func TestBindAgainstTheWords(t *testing.T) {
	count := map[api.Errno]int{}
	hold := func(p api.Pat, x api.Type) {
		l, e := Bind(p, x)
		count[e]++
		if got, expected := boundText(l, e), boundText(bindByWords(p, x)); got != expected {
			t.Fatalf("%s with %s: %s, want %s", patText(p), text(x), got, expected)
		}
	}
	for _, p := range rightPats(5) {
		for _, x := range rightTypes(3, i, b, s, u, d, v) {
			hold(p, x)
		}
	}
	for _, p := range rightPats(3) {
		for _, x := range rightTypes(5, i, d, w) {
			hold(p, x)
		}
	}
	for _, p := range rightPats(7) {
		for _, x := range []api.Type{list(list(pairOf(i, b))), pairOf(pairOf(list(d), s), list(u)), pairOf(v, pairOf(i, pairOf(b, s))), list(pairOf(list(i), list(list(u))))} {
			hold(p, x)
		}
	}
	if count[api.OK] < 3000 || count[api.ErrClash] < 3000 || len(count) != 2 {
		t.Error(count)
	}
}

func TestBindOfPatternsThatAreNotRight(t *testing.T) {
	types := append([]api.Type{i, b, s, u, d, v, pairOf(i, i), list(i), list(pairOf(i, i)), fun(i, i)}, wrongTypes()...)
	for _, wrong := range wrongPats() {
		for _, p := range append(aroundPat(wrong), wrong) {
			for _, x := range types {
				if got := bound(p, x); got != wantArg {
					t.Errorf("%s with %s: %s", patText(p), text(x), got)
				}
			}
		}
	}
	// Also behind a part that does not fit.
	if got := bound(pat(api.PPair, pat(api.PInt), pat(api.PPair, named("x"), named("x"))), pairOf(b, pairOf(i, i))); got != wantArg {
		t.Error(got)
	}
}

func TestBindOfTypesThatAreNotRight(t *testing.T) {
	for _, wrong := range wrongTypes() {
		for _, x := range append(aroundType(wrong), wrong) {
			for _, p := range rightPats(3) {
				if got := bound(p, x); got != wantArg {
					t.Errorf("%s with %s: %s", patText(p), text(x), got)
				}
			}
		}
	}
	// Also behind a part that does not fit.
	if got := bound(read(t, "(1, x)"), pairOf(b, pairOf(i, leaf(99)))); got != wantArg {
		t.Error(got)
	}
}

func TestBindLooksOnlyAtThePattern(t *testing.T) {
	// Places, numbers and texts are of no account, nor is nil or an empty list.
	empty := func(p api.Pat) api.Pat {
		p.Kids, p.At = []api.Pat{}, api.Span{From: 7, To: -7}
		return p
	}
	p := pat(api.PCons, empty(named("x")), pat(api.PCons, empty(api.Pat{Kind: api.PInt, N: 9}), empty(pat(api.PNil))))
	x := list(api.Type{Kind: api.TInt, Kids: []api.Type{}})
	if got := bound(p, x); got != want("x", i) {
		t.Error(got)
	}
}

// Large patterns and types.

// deep returns a pattern of so many pairs or lists below each other, on one side.
func deep(kind, times int, second bool, end api.Pat) api.Pat {
	for range times {
		kids := []api.Pat{end, pat(api.PAny)}
		if second {
			slices.Reverse(kids)
		}
		end = pat(kind, kids...)
	}
	return end
}

// deepType returns a type that such a pattern fits if its end fits the end.
func deepType(kind, times int, second bool, end api.Type) api.Type {
	for range times {
		switch {
		case kind == api.PCons && second:
			return end
		case kind == api.PCons:
			end = list(end)
		case second:
			end = pairOf(i, end)
		default:
			end = pairOf(end, i)
		}
	}
	return end
}

func TestDeepPatterns(t *testing.T) {
	defer shallow()()
	const times = 600000
	for _, kind := range []int{api.PPair, api.PCons} {
		for _, second := range []bool{false, true} {
			p := deep(kind, times, second, named("x"))
			if got := Names(p); len(got) != 1 || got[0] != "x" {
				t.Error(kind, second, len(got))
			}
			x := deepType(kind, times, second, list(b))
			if l, e := Bind(p, x); e != api.OK || len(l) != 1 || l[0].Name != "x" || text(l[0].Type) != text(list(b)) {
				t.Error(kind, second, len(l), e)
			}
			if l, e := Bind(deep(kind, times, second, pat(api.PUnit)), x); e != api.ErrClash || len(l) != 0 {
				t.Error(kind, second, len(l), e)
			}
			if l, e := Bind(deep(kind, times, second, pat(99)), x); e != api.ErrArg || len(l) != 0 {
				t.Error(kind, second, len(l), e)
			}
			if l, e := Bind(named("y"), x); e != api.OK || len(l) != 1 || l[0].Name != "y" {
				t.Error(kind, second, len(l), e)
			}
		}
	}
}

func TestManyNames(t *testing.T) {
	const most = 50000
	p, wide := pat(api.PNil), pat(99)
	var expected []string
	for k := range most {
		x := named(fmt.Sprint("x", most-1-k))
		p = pat(api.PCons, x, p)
		wide.Kids = append(wide.Kids, named(fmt.Sprint("x", k)))
		expected = append(expected, fmt.Sprint("x", k))
	}
	if !slices.Equal(Names(p), expected) || !slices.Equal(Names(wide), expected) {
		t.Error("not all names, or not in order")
	}
	l, e := Bind(p, list(d))
	if len(l) != most || e != api.OK {
		t.Fatal(len(l), e)
	}
	for k, x := range l {
		if x.Name != expected[k] || text(x.Type) != text(d) {
			t.Fatal(k, x)
		}
	}
}

func TestSharedPatternsAndTypes(t *testing.T) {
	// 2^16 leaves, in 16 pairs of memory.
	p, x := pat(api.PInt), i
	names := named("x")
	for range 16 {
		p, x, names = pat(api.PPair, p, p), pairOf(x, x), pat(api.PPair, names, names)
	}
	if l, e := Bind(p, x); len(l) != 0 || e != api.OK {
		t.Error(len(l), e)
	}
	if l, e := Bind(pat(api.PPair, p, named("x")), pairOf(x, x)); len(l) != 1 || e != api.OK {
		t.Error(len(l), e)
	}
	if l, e := Bind(names, x); len(l) != 0 || e != api.ErrArg {
		t.Error(len(l), e)
	}
	if l := Names(names); len(l) != 1<<16 || slices.Max(l) != "x" || slices.Min(l) != "x" {
		t.Error(len(l))
	}
}

// The rules.

// spare returns p with lists that have room behind their ends, which is not empty.
func spare(p api.Pat) api.Pat {
	if len(p.Kids) == 0 {
		return p
	}
	kids := make([]api.Pat, 0, len(p.Kids)+2)
	for _, kid := range p.Kids {
		kids = append(kids, spare(kid))
	}
	_ = append(kids, named("behind"), pat(99))
	p.Kids = kids
	return p
}

// spareType returns t with such lists.
func spareType(t api.Type) api.Type {
	if len(t.Kids) == 0 {
		return t
	}
	kids := make([]api.Type, 0, len(t.Kids)+2)
	for _, kid := range t.Kids {
		kids = append(kids, spareType(kid))
	}
	_ = append(kids, leaf(98), leaf(99))
	t.Kids = kids
	return t
}

// behind tells what is in the lists of a pattern, also behind their ends.
func behind(p api.Pat) string {
	var kids strings.Builder
	for _, kid := range p.Kids[:cap(p.Kids)] {
		kids.WriteString(behind(kid))
	}
	p.Kids = nil
	return patText(p) + "(" + kids.String() + ")"
}

// behindType tells the same of a type.
func behindType(t api.Type) string {
	var kids strings.Builder
	for _, kid := range t.Kids[:cap(t.Kids)] {
		kids.WriteString(behindType(kid))
	}
	t.Kids = nil
	return text(t) + "(" + kids.String() + ")"
}

func TestArgumentsAreNotChanged(t *testing.T) {
	for _, p := range append(rightPats(5), wrongPats()...) {
		p := spare(p)
		was := behind(p)
		for _, x := range []api.Type{i, list(i), pairOf(list(i), b), list(list(pairOf(i, b))), pairOf(i, treeOf(api.TList))} {
			x := spareType(x)
			wasType := behindType(x)
			Names(p)
			first := bound(p, x)
			if second := bound(p, x); second != first {
				t.Errorf("%s, then %s", first, second)
			}
			if behind(p) != was || behindType(x) != wasType {
				t.Errorf("%s became %s, or %s became %s", was, behind(p), wasType, behindType(x))
			}
		}
	}
}
