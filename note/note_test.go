package note

import (
	"fmt"
	"math"
	"reflect"
	"runtime/debug"
	"slices"
	"strings"
	"testing"

	"surety/api"
	"surety/lex"
	"surety/typ"
)

func leaf(kind int) api.Type { return api.Type{Kind: kind} }

func variable(n int) api.Type { return api.Type{Kind: api.TVar, N: n} }

func node(kind int, kids ...api.Type) api.Type { return api.Type{Kind: kind, Kids: kids} }

func pair(a, b api.Type) api.Type { return node(api.TPair, a, b) }

func list(a api.Type) api.Type { return node(api.TList, a) }

func fun(a, b api.Type) api.Type { return node(api.TFun, a, b) }

func closedLeaves() []api.Type {
	return []api.Type{leaf(api.TInt), leaf(api.TBool), leaf(api.TStr), leaf(api.TUnit), leaf(api.TDyn)}
}

// grown returns the leaves and, rounds times, all types with kids among those
// that there are, as long as a kid is one of the first ones.
func grown(leaves []api.Type, rounds, first int) []api.Type {
	l := leaves
	for range rounds {
		pool := l
		l = slices.Clone(leaves)
		for _, x := range pool {
			l = append(l, list(x))
			for _, y := range pool[:min(len(pool), first)] {
				l = append(l, pair(x, y), pair(y, x), fun(x, y), fun(y, x))
			}
		}
	}
	return l
}

// wantText is the text of a right type, told from the kids on.
func wantText(t api.Type) string {
	var kids []any
	for _, kid := range t.Kids {
		s := wantText(kid)
		if strings.ContainsAny(s, " ") {
			s = "(" + s + ")"
		}
		kids = append(kids, s)
	}
	switch t.Kind {
	case api.TVar:
		return fmt.Sprintf("'%d", t.N)
	case api.TPair:
		return fmt.Sprintf("%s * %s", kids...)
	case api.TList:
		return fmt.Sprintf("%s list", kids...)
	case api.TFun:
		return fmt.Sprintf("%s -> %s", kids...)
	}
	return strings.Fields("int bool string unit ?")[t.Kind-1]
}

func checkText(t *testing.T, x api.Type, want string) {
	t.Helper()
	if s, e := Text(x); s != want || e != api.OK {
		t.Errorf("%.200v: %.200q %v, want %.200q", x, s, e, want)
	}
}

func checkNoText(t *testing.T, x api.Type) {
	t.Helper()
	if s, e := Text(x); s != "" || e != api.ErrArg {
		t.Errorf("%.200v: %.200q %v, want no text", x, s, e)
	}
}

// tokens are the tokens of a source that has no errors.
func tokens(t *testing.T, source string) []api.Token {
	t.Helper()
	l, at, e := lex.Scan([]byte(source))
	if e != api.OK {
		t.Fatalf("%.200q: %d %v", source, at, e)
	}
	return l
}

func checkRead(t *testing.T, l []api.Token, i int, want api.Type, wantNext int) {
	t.Helper()
	x, next, e := Read(l, i)
	if !typ.Same(x, want) || next != wantNext || e != api.OK {
		t.Errorf("%.200v from %d on: %.200v %d %v, want %.200v %d", l, i, x, next, e, want, wantNext)
	}
}

func checkNoType(t *testing.T, l []api.Token, i, wantNext int, want api.Errno) {
	t.Helper()
	if x, next, e := Read(l, i); !reflect.DeepEqual(x, api.Type{}) || next != wantNext || e != want {
		t.Errorf("%.200v from %d on: %.200v %d %v, want %d %v", l, i, x, next, e, wantNext, want)
	}
}

// P4.1: Text.

func TestTextsOfLeaves(t *testing.T) {
	for i, want := range []string{"int", "bool", "string", "unit", "?"} {
		checkText(t, leaf(api.TInt+i), want)
	}
	for n, want := range map[int]string{0: "'0", 1: "'1", 9: "'9", 10: "'10", 4711: "'4711", api.MaxVar - 1: "'1048575", api.MaxVar: "'1048576"} {
		checkText(t, variable(n), want)
	}
}

func TestTextsWithKids(t *testing.T) {
	i, b, s, u, d := leaf(api.TInt), leaf(api.TBool), leaf(api.TStr), leaf(api.TUnit), leaf(api.TDyn)
	for _, c := range []struct {
		t    api.Type
		want string
	}{
		{pair(i, b), "int * bool"},
		{list(s), "string list"},
		{fun(u, d), "unit -> ?"},
		{fun(variable(3), list(variable(20))), "'3 -> ('20 list)"},
		{fun(pair(i, b), list(d)), "(int * bool) -> (? list)"},
		// A kid that is no leaf is always enclosed, also where it need not be.
		{list(list(i)), "(int list) list"},
		{list(pair(i, d)), "(int * ?) list"},
		{list(fun(i, d)), "(int -> ?) list"},
		{pair(list(i), d), "(int list) * ?"},
		{pair(d, list(i)), "? * (int list)"},
		{pair(pair(i, b), s), "(int * bool) * string"},
		{pair(i, pair(b, s)), "int * (bool * string)"},
		{pair(fun(i, b), fun(b, i)), "(int -> bool) * (bool -> int)"},
		{fun(i, fun(b, s)), "int -> (bool -> string)"},
		{fun(fun(i, b), s), "(int -> bool) -> string"},
		{fun(u, pair(u, u)), "unit -> (unit * unit)"},
		{list(list(list(pair(fun(u, d), variable(0))))), "((((unit -> ?) * '0) list) list) list"},
	} {
		checkText(t, c.t, c.want)
	}
}

func TestTextsOfManyTypes(t *testing.T) {
	leaves := append(closedLeaves(), variable(0), variable(api.MaxVar))
	for _, x := range append(grown(leaves, 2, 10), grown(leaves[:2], 3, 3)...) {
		checkText(t, x, wantText(x))
	}
}

func TestDifferentTypesHaveDifferentTexts(t *testing.T) {
	leaves := append(closedLeaves(), variable(1), variable(11))
	texts := map[string]api.Type{}
	for _, x := range grown(leaves, 2, 9) {
		s, _ := Text(x)
		if y, ok := texts[s]; ok && !typ.Same(x, y) {
			t.Errorf("%v and %v: %q", x, y, s)
		}
		texts[s] = x
	}
}

// wrongTypes are types that are not right by themselves.
func wrongTypes() []api.Type {
	i := leaf(api.TInt)
	l := []api.Type{
		{}, leaf(-1), leaf(10), leaf(math.MaxInt), leaf(math.MinInt), leaf(256 + api.TInt),
		variable(-1), variable(api.MaxVar + 1), variable(math.MaxInt), variable(math.MinInt), node(api.TVar, i),
		leaf(api.TPair), node(api.TPair, i), node(api.TPair, i, i, i),
		leaf(api.TFun), node(api.TFun, i), node(api.TFun, i, i, i),
		leaf(api.TList), node(api.TList, i, i),
		{Kind: api.TPair, N: 1, Kids: []api.Type{i, i}},
		{Kind: api.TFun, N: -1, Kids: []api.Type{i, i}},
		{Kind: api.TList, N: 1, Kids: []api.Type{i}},
		node(0, i), node(10, i, i),
	}
	for _, x := range closedLeaves() {
		l = append(l, node(x.Kind, i), api.Type{Kind: x.Kind, N: 1})
	}
	return l
}

func TestTypesThatAreNotRightHaveNoText(t *testing.T) {
	i, v := leaf(api.TInt), variable(2)
	for _, x := range wrongTypes() {
		checkNoText(t, x)
		for _, y := range []api.Type{list(x), pair(x, v), pair(i, x), fun(x, i), fun(v, x)} {
			checkNoText(t, y)
			checkNoText(t, fun(list(i), y))
			checkNoText(t, pair(y, fun(i, v)))
		}
	}
}

// P4.2: Read.

func TestReads(t *testing.T) {
	i, b, s, u, d := leaf(api.TInt), leaf(api.TBool), leaf(api.TStr), leaf(api.TUnit), leaf(api.TDyn)
	for _, c := range []struct {
		source string
		i      int
		want   api.Type
		next   int
	}{
		{"int", 0, i, 1}, {"bool", 0, b, 1}, {"string", 0, s, 1}, {"unit", 0, u, 1}, {"?", 0, d, 1},
		{"int * bool", 0, pair(i, b), 3},
		{"int -> bool", 0, fun(i, b), 3},
		{"string list", 0, list(s), 2},
		{"?list", 0, list(d), 2},
		{"unit->?", 0, fun(u, d), 3},
		{"(int)", 0, i, 3}, {"(((int)))", 0, i, 7}, {"((int) list)", 0, list(i), 6},
		// Lists bind before pairs, these before functions, which lean to the right.
		{"int list list list", 0, list(list(list(i))), 4},
		{"int list * bool list", 0, pair(list(i), list(b)), 5},
		{"int * bool list", 0, pair(i, list(b)), 4},
		{"(int * bool) list", 0, list(pair(i, b)), 6},
		{"int * bool -> string * unit", 0, fun(pair(i, b), pair(s, u)), 7},
		{"int * (bool -> string) * unit", 0, pair(i, fun(b, s)), 7},
		{"int -> bool -> string -> unit", 0, fun(i, fun(b, fun(s, u))), 7},
		{"(int -> bool) -> string -> unit", 0, fun(fun(i, b), fun(s, u)), 9},
		{"int -> bool list", 0, fun(i, list(b)), 4},
		{"(int -> bool) list", 0, list(fun(i, b)), 6},
		{"(int * bool) * string", 0, pair(pair(i, b), s), 7},
		{"int * (bool * string)", 0, pair(i, pair(b, s)), 7},
		{"? -> (? -> ?) -> ?", 0, fun(d, fun(fun(d, d), d)), 9},
		// A type extends as far as a token can continue it, and no farther.
		{"int * bool * int", 0, pair(i, b), 3},
		{"int * bool * int", 2, pair(b, i), 5},
		{"int -> bool * string * unit", 0, fun(i, pair(b, s)), 5},
		{"int * bool -> unit * unit * unit", 0, fun(pair(i, b), pair(u, u)), 7},
		{"(int * bool) * unit * ?", 0, pair(pair(i, b), u), 7},
		{"int)", 0, i, 1}, {"(int) )", 0, i, 3}, {"int list)", 0, list(i), 2},
		{"int -> bool) list", 0, fun(i, b), 3},
		{"int int", 0, i, 1}, {"int ?", 0, i, 1}, {"int (bool)", 0, i, 1}, {"(int) (bool)", 0, i, 3},
		{"int = 5", 0, i, 1}, {"int list = []", 0, list(i), 2}, {"int, bool", 0, i, 1}, {"int in x", 0, i, 1},
		{"int : bool", 0, i, 1}, {"int - bool", 0, i, 1}, {"int list1", 0, i, 1}, {"int \"list\"", 0, i, 1},
		// It begins at the index given, whatever stands before that.
		{") * -> int -> bool", 3, fun(i, b), 6},
		{"(int -> bool) list", 1, fun(i, b), 4},
		{"fun (x : int list) : bool", 4, list(i), 6},
		{"fun (x : int list) : bool", 8, b, 9},
	} {
		checkRead(t, tokens(t, c.source), c.i, c.want, c.next)
	}
}

func TestTokensThatCannotStandThere(t *testing.T) {
	for _, c := range []struct {
		source  string
		i, next int
	}{
		// Too early an end.
		{"", 0, 0}, {"int", 1, 1}, {"int * bool", 3, 3},
		{"int *", 0, 2}, {"int ->", 0, 2}, {"int -> bool *", 0, 4}, {"int * bool ->", 0, 4}, {"int list *", 0, 3},
		{"(", 0, 1}, {"((", 0, 2}, {"(int", 0, 2}, {"(int list", 0, 3}, {"(int * bool", 0, 4}, {"((int)", 0, 4}, {"int * (", 0, 3},
		{"(int ->", 0, 3}, {"(int -> bool", 0, 4}, {"(int) ->", 0, 4},
		// At the beginning.
		{"list", 0, 0}, {"*", 0, 0}, {"-> int", 0, 0}, {")", 0, 0}, {"x", 0, 0}, {"5", 0, 0}, {"\"int\"", 0, 0},
		{"true", 0, 0}, {"end", 0, 0}, {"[", 0, 0}, {"_", 0, 0}, {"int = 5", 1, 1}, {"int list", 1, 1},
		// Within it.
		{"()", 0, 1}, {"(list", 0, 1}, {"(*", 0, 1}, {"(()", 0, 2},
		{"int * )", 0, 2}, {"int * list", 0, 2}, {"int * * int", 0, 2}, {"int * -> int", 0, 2},
		{"int -> )", 0, 2}, {"int -> list", 0, 2}, {"int -> -> int", 0, 2}, {"int -> * int", 0, 2},
		{"int -> x", 0, 2}, {"int * 5", 0, 2}, {"int -> = bool", 0, 2},
		{"(int int)", 0, 2}, {"(int ?)", 0, 2}, {"(int = 5)", 0, 2}, {"(int, bool)", 0, 2}, {"(int]", 0, 2}, {"(int (", 0, 2},
		{"(int * bool * int)", 0, 4}, {"(int -> bool * int * unit)", 0, 6}, {"((int) * int * int) list", 0, 6},
		{"(int -> ) list", 0, 3}, {"(int * bool x)", 0, 4}, {"(int -> bool list unit)", 0, 5},
		{"x : int -> y", 2, 4},
	} {
		checkNoType(t, tokens(t, c.source), c.i, c.next, api.ErrText)
	}
}

func TestIndexesOutside(t *testing.T) {
	for _, source := range []string{"", "int", "int -> bool", ") ("} {
		l := tokens(t, source)
		for _, i := range []int{-1, -2, len(l) + 1, len(l) + 2, math.MinInt, math.MaxInt} {
			checkNoType(t, l, i, 0, api.ErrArg)
		}
		checkNoType(t, l, len(l), len(l), api.ErrText)
	}
	checkNoType(t, nil, 0, 0, api.ErrText)
	checkNoType(t, []api.Token{}, 0, 0, api.ErrText)
}

func TestTokensBehindTheEndOfASliceAreNone(t *testing.T) {
	l := tokens(t, "(int -> bool list)")
	checkNoType(t, l[:5], 0, 5, api.ErrText)
	checkNoType(t, l[:3], 1, 3, api.ErrText)
	checkNoType(t, l[:2], 2, 2, api.ErrText)
	checkNoType(t, l[:2], 3, 0, api.ErrArg)
	checkRead(t, l[:2], 1, leaf(api.TInt), 2)
	checkRead(t, l[:4], 1, fun(leaf(api.TInt), leaf(api.TBool)), 4)
}

func TestTheKindOfATokenCounts(t *testing.T) {
	kinds := []int{math.MinInt, -1, 0, api.KName, api.KWord, api.KNum, api.KStr, api.KSign, 6, math.MaxInt}
	for _, kind := range kinds {
		for _, s := range []string{"int", "bool", "string", "unit", "?", "("} {
			l := []api.Token{{Kind: kind, S: s}}
			switch {
			case s == "(" && kind == api.KSign:
				checkNoType(t, l, 0, 1, api.ErrText)
			case s == "?" && kind == api.KSign:
				checkRead(t, l, 0, leaf(api.TDyn), 1)
			case s != "?" && s != "(" && kind == api.KWord:
				if x, next, e := Read(l, 0); x.Kind == 0 || next != 1 || e != api.OK {
					t.Error(s, x, next, e)
				}
			default:
				checkNoType(t, l, 0, 0, api.ErrText)
			}
		}
		for _, s := range []string{"*", "->", "list"} {
			l := []api.Token{{Kind: api.KWord, S: "int"}, {Kind: kind, S: s}}
			switch {
			case s == "list" && kind == api.KWord:
				checkRead(t, l, 0, list(leaf(api.TInt)), 2)
			case s != "list" && kind == api.KSign:
				checkNoType(t, l, 0, 2, api.ErrText)
			default:
				checkRead(t, l, 0, leaf(api.TInt), 1)
			}
		}
		l := []api.Token{{Kind: api.KSign, S: "("}, {Kind: api.KWord, S: "unit"}, {Kind: kind, S: ")"}}
		if kind == api.KSign {
			checkRead(t, l, 0, leaf(api.TUnit), 3)
		} else {
			checkNoType(t, l, 0, 2, api.ErrText)
		}
	}
}

func TestOtherTextsOfTokens(t *testing.T) {
	for _, kind := range []int{api.KWord, api.KSign} {
		for _, s := range []string{"", " ", "Int", "int ", " int", "INT", "in", "i", "str", "'0", "'", "??", "-", ">", "->", "*", ")", "list", "((", "\x00"} {
			checkNoType(t, []api.Token{{Kind: kind, S: s}, {Kind: api.KWord, S: "int"}}, 0, 0, api.ErrText)
		}
	}
}

func TestOnlyKindAndTextOfATokenCount(t *testing.T) {
	l := tokens(t, "( int * bool list ) -> ?")
	want, next, _ := Read(l, 0)
	for i := range l {
		l[i].From, l[i].To, l[i].N = 77-i, -5, int64(i)
	}
	checkRead(t, l, 0, want, next)
}

// The signs of the tests of all sequences, each for one token.
const signs = "i?l*>()x"

func tokensOf(s string) []api.Token {
	var l []api.Token
	for _, c := range s {
		l = append(l, map[rune]api.Token{
			'i': {Kind: api.KWord, S: "int"},
			'?': {Kind: api.KSign, S: "?"},
			'l': {Kind: api.KWord, S: "list"},
			'*': {Kind: api.KSign, S: "*"},
			'>': {Kind: api.KSign, S: "->"},
			'(': {Kind: api.KSign, S: "("},
			')': {Kind: api.KSign, S: ")"},
			'x': {Kind: api.KName, S: "x"},
		}[c])
	}
	return l
}

// whole returns the type whose tokens are all of s, by the rules of the grammar
// from the outermost one on.
func whole(s string) (api.Type, bool) {
	for i := range outside(s, '>') {
		a, okA := prod(s[:i])
		b, okB := whole(s[i+1:])
		return fun(a, b), okA && okB
	}
	return prod(s)
}

func prod(s string) (api.Type, bool) {
	for i := range outside(s, '*') {
		a, okA := post(s[:i])
		b, okB := post(s[i+1:])
		return pair(a, b), okA && okB
	}
	return post(s)
}

func post(s string) (api.Type, bool) {
	switch {
	case s == "i":
		return leaf(api.TInt), true
	case s == "?":
		return leaf(api.TDyn), true
	case strings.HasSuffix(s, "l"):
		x, ok := post(s[:len(s)-1])
		return list(x), ok
	case len(s) > 2 && s[0] == '(' && s[len(s)-1] == ')':
		return whole(s[1 : len(s)-1])
	}
	return api.Type{}, false
}

// outside ranges over the places of a sign outside of parentheses.
func outside(s string, sign byte) func(yield func(int) bool) {
	return func(yield func(int) bool) {
		depth := 0
		for i := range len(s) {
			switch {
			case s[i] == '(':
				depth++
			case s[i] == ')':
				depth--
			case s[i] == sign && depth == 0:
				if !yield(i) {
					return
				}
			}
		}
	}
}

// begins reports whether some type begins with s: with a leaf behind it or
// none, and with the parentheses closed.
func begins(s string) bool {
	closing := strings.Repeat(")", max(0, strings.Count(s, "(")-strings.Count(s, ")")))
	_, ok := whole(s + closing)
	if !ok {
		_, ok = whole(s + "i" + closing)
	}
	return ok
}

// wantRead says what Read has to return: the longest sequence with which a type
// begins is the type, or what comes behind it cannot stand there.
func wantRead(s string) (api.Type, int, api.Errno) {
	n := 0
	for n < len(s) && begins(s[:n+1]) {
		n++
	}
	if x, ok := whole(s[:n]); ok {
		return x, n, api.OK
	}
	return api.Type{}, n, api.ErrText
}

func checkSequence(t *testing.T, s string) {
	t.Helper()
	want, wantNext, wantE := wantRead(s)
	x, next, e := Read(tokensOf(s), 0)
	if !reflect.DeepEqual(x, want) || next != wantNext || e != wantE {
		t.Errorf("%q: %v %d %v, want %v %d %v", s, x, next, e, want, wantNext, wantE)
	}
}

func TestAllShortSequences(t *testing.T) {
	var extend func(s string, more int)
	extend = func(s string, more int) {
		checkSequence(t, s)
		// One sign behind what no type begins with is enough.
		if more == 0 || s != "" && !begins(s) && !begins(s[:len(s)-1]) {
			return
		}
		for _, c := range signs {
			extend(s+string(c), more-1)
		}
	}
	extend("", 8)
}

func TestReadFromEveryIndex(t *testing.T) {
	for _, s := range []string{"(i*?)l>?*i*i)x(i", "x(((?>i)l*i)>(?))ll*ix", "ix?l(>)*ii>i*i>i>x"} {
		l := tokensOf(s)
		for i := range len(s) + 1 {
			want, wantNext, wantE := wantRead(s[i:])
			x, next, e := Read(l, i)
			if !reflect.DeepEqual(x, want) || next != i+wantNext || e != wantE {
				t.Errorf("%q from %d on: %v %d %v", s, i, x, next, e)
			}
		}
	}
}

// P4.3: texts are read back.

func TestTextsAreReadBack(t *testing.T) {
	leaves := closedLeaves()
	for _, x := range append(grown(leaves, 2, 12), grown(leaves[3:], 3, 3)...) {
		s, _ := Text(x)
		l := tokens(t, s)
		checkRead(t, l, 0, x, len(l))
		// As it extends as far as it can, so does it among others.
		l = append(append(tokens(t, "fun ( x :"), l...), tokens(t, ") = x")...)
		checkRead(t, l, 4, x, len(l)-3)
	}
}

func TestVariablesHaveNoTokens(t *testing.T) {
	for _, x := range []api.Type{variable(0), list(variable(1)), fun(leaf(api.TInt), variable(2))} {
		s, _ := Text(x)
		if _, at, e := lex.Scan([]byte(s)); e != api.ErrText || at != strings.Index(s, "'") {
			t.Error(s, at, e)
		}
	}
}

// The rules: every call ends, arguments stay as they are, results are new.

func TestDeepTypes(t *testing.T) {
	// A function that calls itself for each kid would need more than this.
	defer debug.SetMaxStack(debug.SetMaxStack(1 << 20))
	const depth = 1 << 15
	for i, c := range []struct {
		down        func(api.Type) api.Type
		left, right string
	}{
		{list, "(", ") list"},
		{func(x api.Type) api.Type { return pair(x, variable(2)) }, "(", ") * '2"},
		{func(x api.Type) api.Type { return pair(leaf(api.TStr), x) }, "string * (", ")"},
		{func(x api.Type) api.Type { return fun(x, leaf(api.TDyn)) }, "(", ") -> ?"},
		{func(x api.Type) api.Type { return fun(leaf(api.TBool), x) }, "bool -> (", ")"},
	} {
		x, wrong := list(leaf(api.TInt)), leaf(0)
		for range depth {
			x, wrong = c.down(x), c.down(wrong)
		}
		s, e := Text(x)
		want := strings.Repeat(c.left, depth) + "int list" + strings.Repeat(c.right, depth)
		if s != want || e != api.OK {
			t.Error(i, len(s), e)
		}
		checkNoText(t, wrong)
	}
}

func TestLongSequences(t *testing.T) {
	defer debug.SetMaxStack(debug.SetMaxStack(1 << 20))
	const times = 1 << 15
	i, d := leaf(api.TInt), leaf(api.TDyn)
	for j, c := range []struct {
		left, middle, right string
		up                  func(api.Type) api.Type
	}{
		{"(", "?", ")", func(x api.Type) api.Type { return x }},
		{"", "?", "l", list},
		{"(", "?", ")l", list},
		{"i>", "?", "", func(x api.Type) api.Type { return fun(i, x) }},
		{"(", "?", ")>i", func(x api.Type) api.Type { return fun(x, i) }},
		{"i*(", "?", ")", func(x api.Type) api.Type { return pair(i, x) }},
		{"(", "?", "*i)", func(x api.Type) api.Type { return pair(x, i) }},
		{"?l*i>(", "?", ")", func(x api.Type) api.Type { return fun(pair(list(d), i), x) }},
	} {
		s := strings.Repeat(c.left, times) + c.middle + strings.Repeat(c.right, times)
		want := d
		for range times {
			want = c.up(want)
		}
		l := tokensOf(s)
		x, next, e := Read(l, 0)
		if !typ.Same(x, want) || next != len(l) || e != api.OK {
			t.Error(j, next, e)
		}
		l[len(c.left)*times] = api.Token{Kind: api.KName, S: "x"}
		if len(c.left) > 0 {
			checkNoType(t, l, 0, len(c.left)*times, api.ErrText)
		}
	}
	checkNoType(t, tokensOf(strings.Repeat("(", times)), 0, times, api.ErrText)
}

func TestSharedPartsAreWrittenEachTime(t *testing.T) {
	x, want := leaf(api.TDyn), "?"
	for range 14 {
		x = pair(x, x)
		want = fmt.Sprintf("%s * %s", want, want)
		checkText(t, x, want)
		want = "(" + want + ")"
	}
}

// spare returns t with further types behind each list of kids.
func spare(t api.Type) api.Type {
	if len(t.Kids) == 0 {
		return t
	}
	kids := make([]api.Type, 0, len(t.Kids)+2)
	for _, kid := range t.Kids {
		kids = append(kids, spare(kid))
	}
	t.Kids = append(kids, leaf(-7), variable(-9))[:len(kids)]
	return t
}

// all is t with all that lies behind its lists of kids.
func all(t api.Type) string {
	s := fmt.Sprintf("<%d.%d %d %d", t.Kind, t.N, len(t.Kids), cap(t.Kids))
	for _, kid := range t.Kids[:cap(t.Kids)] {
		s += all(kid)
	}
	return s + ">"
}

func TestArgumentsAreNotChanged(t *testing.T) {
	types := grown([]api.Type{leaf(api.TInt), variable(7)}, 2, 4)
	for _, x := range types {
		y := spare(x)
		before := all(y)
		checkText(t, y, wantText(x))
		if all(y) != before {
			t.Errorf("%v is changed", x)
		}
	}
	for _, s := range []string{"i*?>(il>i)x", "(i", "i*i*i", ""} {
		l := append(tokensOf(s), tokensOf(")l*i>i")...)[:len(s)]
		before := slices.Clone(l[:cap(l)])
		want, wantNext, wantE := wantRead(s)
		if x, next, e := Read(l, 0); !reflect.DeepEqual(x, want) || next != wantNext || e != wantE {
			t.Error(s, x, next, e)
		}
		if !slices.Equal(l[:cap(l)], before) {
			t.Errorf("%q is changed", s)
		}
	}
}

func TestATypeThatIsReadIsTheCallers(t *testing.T) {
	l := tokensOf("(i*?)l>i*i")
	first, _, _ := Read(l, 0)
	second, _, _ := Read(l, 0)
	want := wantText(second)
	for x := &first; len(x.Kids) > 0; {
		down := &x.Kids[0]
		_ = append(x.Kids, leaf(77))
		x.Kids[len(x.Kids)-1] = leaf(78)
		x = down
	}
	checkText(t, second, want)
	// No two lists of kids of one type share memory.
	second.Kids[0].Kids[0].Kids[0] = leaf(api.TUnit)
	_ = append(second.Kids[0].Kids, leaf(77))
	checkText(t, second, "((unit * ?) list) -> (int * int)")
}

// fuzzed builds a type from bytes.
func fuzzed(b *[]byte, depth int) api.Type {
	if len(*b) == 0 {
		return leaf(api.TInt)
	}
	head := (*b)[0]
	*b = (*b)[1:]
	switch kind := int(head % 10); {
	case kind == api.TVar:
		return variable(int(head))
	case kind < api.TPair || depth == 0:
		return leaf(min(kind, api.TDyn))
	case kind == api.TList:
		return list(fuzzed(b, depth-1))
	default:
		first := fuzzed(b, depth-1)
		return node(kind, first, fuzzed(b, depth-1))
	}
}

func FuzzText(f *testing.F) {
	f.Add([]byte{9, 7, 1, 2, 8, 5})
	f.Add([]byte{9, 6, 8, 16})
	f.Add([]byte{8, 8, 0})
	f.Fuzz(func(t *testing.T, b []byte) {
		x := fuzzed(&b, 10)
		if typ.Check(x) != api.OK {
			checkNoText(t, x)
			return
		}
		checkText(t, x, wantText(x))
		if typ.Closed(x) {
			s, _ := Text(x)
			l := tokens(t, s)
			checkRead(t, l, 0, x, len(l))
		}
	})
}

func FuzzRead(f *testing.F) {
	f.Add([]byte("i*?>(il>i)x"))
	f.Add([]byte("((i*i)*i*i)"))
	f.Fuzz(func(t *testing.T, b []byte) {
		if len(b) > 300 {
			return
		}
		s := make([]byte, len(b))
		for i, c := range b {
			s[i] = signs[int(c)%len(signs)]
		}
		checkSequence(t, string(s))
	})
}
