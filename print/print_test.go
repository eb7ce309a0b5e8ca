package print

import (
	"bytes"
	"fmt"
	"math"
	"regexp"
	"runtime/debug"
	"slices"
	"strconv"
	"strings"
	"testing"

	"surety/api"
	"surety/parse"
	"surety/tree"
)

// Builders of expressions, patterns and types, right or not.

func ex(kind int, kids ...api.Expr) api.Expr { return api.Expr{Kind: kind, Kids: kids} }

func name(s string) api.Expr { return api.Expr{Kind: api.EName, Name: s} }

func num(n int64) api.Expr { return api.Expr{Kind: api.EInt, N: n} }

func truthOf(n int64) api.Expr { return api.Expr{Kind: api.EBool, N: n} }

func str(s string) api.Expr { return api.Expr{Kind: api.EStr, S: s} }

func fun(s string, a api.Type, body api.Expr) api.Expr {
	return api.Expr{Kind: api.EFun, Name: s, A: a, Kids: []api.Expr{body}}
}

func let(s string, a api.Type, bound, body api.Expr) api.Expr {
	return api.Expr{Kind: api.ELet, Name: s, A: a, Kids: []api.Expr{bound, body}}
}

func rec(f, s string, a, b api.Type, body, rest api.Expr) api.Expr {
	return api.Expr{Kind: api.ERec, Name: f, Arg: s, A: a, B: b, Kids: []api.Expr{body, rest}}
}

func asc(e api.Expr, a api.Type) api.Expr {
	return api.Expr{Kind: api.EAsc, A: a, Kids: []api.Expr{e}}
}

func op(o int, x, y api.Expr) api.Expr {
	return api.Expr{Kind: api.EOp, Op: o, Kids: []api.Expr{x, y}}
}

func cases(pats []api.Pat, kids ...api.Expr) api.Expr {
	return api.Expr{Kind: api.EMatch, Pats: pats, Kids: kids}
}

func pats(l ...api.Pat) []api.Pat { return l }

func pat(kind int, kids ...api.Pat) api.Pat { return api.Pat{Kind: kind, Kids: kids} }

func pname(s string) api.Pat { return api.Pat{Kind: api.PName, Name: s} }

func pnum(n int64) api.Pat { return api.Pat{Kind: api.PInt, N: n} }

func ptruth(n int64) api.Pat { return api.Pat{Kind: api.PBool, N: n} }

func pstr(s string) api.Pat { return api.Pat{Kind: api.PStr, S: s} }

func cons(p, q api.Pat) api.Pat { return pat(api.PCons, p, q) }

func leaf(kind int) api.Type { return api.Type{Kind: kind} }

func ty(kind int, kids ...api.Type) api.Type { return api.Type{Kind: kind, Kids: kids} }

// lists returns a list of lists, so many times, of ?.
func lists(n int) api.Type {
	t := leaf(api.TDyn)
	for range n {
		t = ty(api.TList, t)
	}
	return t
}

var (
	nothing = api.Type{}
	tint    = leaf(api.TInt)
	tdyn    = leaf(api.TDyn)
	tvar    = leaf(api.TVar)
	x, y    = name("x"), name("y")
	wild    = pat(api.PAny)
)

// What the chapter says of each kind, as it writes it: T0 and Q0 stand for a
// kid, N for Name, P for a name with A, YA and YB for : and an annotation where
// there is one, O for the sign, L for the literal and E for each pattern with
// its arm.
func exprForms() map[int]string {
	return map[int]string{
		api.EName: "N", api.EInt: "L", api.EBool: "L", api.EStr: "L", api.EUnit: "()", api.ENil: "[]",
		api.EPair: "(T0, T1)", api.ECons: "Q0 :: Q1", api.EApp: "Q0 Q1", api.EOp: "Q0 O Q1",
		api.EFun: "fun P -> T0", api.ELet: "let NYA = T0 in T1", api.ERec: "let rec N PYB = T0 in T1",
		api.EIf: "if T0 then T1 else T2", api.EMatch: "match T0 with E end", api.EAsc: "(T0YA)",
	}
}

func patForms() map[int]string {
	return map[int]string{
		api.PAny: "_", api.PName: "N", api.PInt: "L", api.PBool: "L", api.PStr: "L", api.PUnit: "()", api.PNil: "[]",
		api.PPair: "(T0, T1)", api.PCons: "Q0 :: Q1",
	}
}

// wantNum writes a number in a way of its own.
func wantNum(n int64) string { return strings.Replace(fmt.Sprint(n), "-", "~", 1) }

func wantTruth(n int64) string { return fmt.Sprint(n == 1) }

func wantLiteral(s string) string {
	var b strings.Builder
	for _, c := range []byte(s) {
		if strings.IndexByte("\"\\", c) >= 0 || c < ' ' || c > '~' {
			fmt.Fprintf(&b, `\%02x`, c)
		} else {
			b.WriteByte(c)
		}
	}
	return `"` + b.String() + `"`
}

func wantType(t api.Type) string {
	var kids []string
	for _, kid := range t.Kids {
		s := wantType(kid)
		if len(kid.Kids) > 0 {
			s = "(" + s + ")"
		}
		kids = append(kids, s)
	}
	switch t.Kind {
	case api.TList:
		return kids[0] + " list"
	case api.TPair:
		return strings.Join(kids, " * ")
	case api.TFun:
		return strings.Join(kids, " -> ")
	}
	return strings.Fields("none int bool string unit ?")[t.Kind]
}

var partOfForm = regexp.MustCompile(`Y[AB]|[TQ][012]|[NPOLE]`)

// filled returns a form with the text of each of its parts.
func filled(form string, parts map[string]string) string {
	return partOfForm.ReplaceAllStringFunc(form, func(part string) string { return parts[part] })
}

// wantPat is the text of a right pattern.
func wantPat(p api.Pat) string {
	parts := map[string]string{"N": p.Name}
	switch p.Kind {
	case api.PInt:
		parts["L"] = wantNum(p.N)
	case api.PBool:
		parts["L"] = wantTruth(p.N)
	case api.PStr:
		parts["L"] = wantLiteral(p.S)
	}
	for i, kid := range p.Kids {
		s := wantPat(kid)
		parts["T"+strconv.Itoa(i)] = s
		if kid.Kind == api.PCons {
			s = "(" + s + ")"
		}
		parts["Q"+strconv.Itoa(i)] = s
	}
	return filled(patForms()[p.Kind], parts)
}

// wantText is the text of a right expression.
func wantText(e api.Expr) string {
	parts := map[string]string{"N": e.Name, "P": wantParam(e.Name, e.A), "YA": wantBehind(e.A), "YB": wantBehind(e.B)}
	switch e.Kind {
	case api.EInt:
		parts["L"] = wantNum(e.N)
	case api.EBool:
		parts["L"] = wantTruth(e.N)
	case api.EStr:
		parts["L"] = wantLiteral(e.S)
	case api.ERec:
		parts["P"] = wantParam(e.Arg, e.A)
	case api.EOp:
		parts["O"] = strings.Fields("+ - * / < = ==")[e.Op-1]
	}
	var kids, arms []string
	for i, kid := range e.Kids {
		kids = append(kids, wantText(kid))
		if i < 3 {
			parts["T"+strconv.Itoa(i)], parts["Q"+strconv.Itoa(i)] = kids[i], enclosed(kid.Kind, kids[i])
		}
	}
	for i, p := range e.Pats {
		arms = append(arms, wantPat(p)+" -> "+kids[i+1])
	}
	parts["E"] = strings.Join(arms, " | ")
	return filled(exprForms()[e.Kind], parts)
}

func wantParam(s string, a api.Type) string {
	if a.Kind == 0 {
		return s
	}
	return "(" + s + " : " + wantType(a) + ")"
}

func wantBehind(a api.Type) string {
	if a.Kind == 0 {
		return ""
	}
	return " : " + wantType(a)
}

func enclosed(kind int, s string) string {
	switch kind {
	case api.EName, api.EInt, api.EBool, api.EStr, api.EUnit, api.EPair, api.ENil, api.EAsc:
		return s
	}
	return "(" + s + ")"
}

// short is as much of a text as a message needs.
func short(s string) string { return s[:min(len(s), 200)] }

func checkText(t *testing.T, e api.Expr, want string) {
	t.Helper()
	if s, err := Text(e); s != want || err != api.OK {
		t.Errorf("Text: %q, %v instead of %q", short(s), err, short(want))
	}
}

func checkNoText(t *testing.T, e api.Expr, want api.Errno) {
	t.Helper()
	if s, err := Text(e); s != "" || err != want {
		t.Errorf("Text of %.300v: %q, %v instead of %v", e, short(s), err, want)
	}
}

func checkPat(t *testing.T, p api.Pat, want string) {
	t.Helper()
	if s, err := Pat(p); s != want || err != api.OK {
		t.Errorf("Pat: %q, %v instead of %q", short(s), err, short(want))
	}
}

func checkNoPat(t *testing.T, p api.Pat) {
	t.Helper()
	if s, err := Pat(p); s != "" || err != api.ErrArg {
		t.Errorf("Pat of %.300v: %q, %v", p, short(s), err)
	}
}

// checkBack holds what Text writes against what is read of it.
func checkBack(t *testing.T, e api.Expr) {
	t.Helper()
	s, err := Text(e)
	back, at, refused := parse.Parse([]byte(s))
	if err != api.OK || at != 0 || refused != api.OK || !tree.Same(e, back) {
		t.Errorf("%q is not read as it was: %v, %v at %d", short(s), err, refused, at)
	}
	checkText(t, back, s)
}

// The trees that are looked at.

func annotations() []api.Type {
	return []api.Type{
		tint, leaf(api.TBool), leaf(api.TStr), leaf(api.TUnit), tdyn, lists(1), lists(3), ty(api.TPair, tint, tdyn),
		ty(api.TFun, ty(api.TFun, tdyn, lists(2)), ty(api.TPair, lists(1), ty(api.TFun, tint, tint))), {Kind: api.TInt, Kids: []api.Type{}},
	}
}

func numbers() []int64 { return []int64{0, 1, -1, 7, 10, -30, math.MaxInt64, math.MinInt64} }

func texts() []string {
	return []string{"", "a", " ", "\"", "\\", "\"\\22", "\x00\x1f\x7f\xff\n", "T0 N -> é :: (", strings.Repeat("z", api.MaxStr), strings.Repeat("\xfe", api.MaxStr)}
}

// leafPats are patterns without kids, with the names x, y, ... in turn, so that
// each may occur beside each other.
func leafPats() []api.Pat {
	l := pats(wild, pname("x"), pname("y"), pname("z'"), pname("a_B0"), pat(api.PUnit), pat(api.PNil), ptruth(0), ptruth(1))
	for _, n := range numbers() {
		l = append(l, pnum(n))
	}
	for _, s := range texts() {
		l = append(l, pstr(s))
	}
	return l
}

// somePats are all right patterns with kids and grandkids of each kind.
func somePats() []api.Pat {
	few := pats(wild, pname("x"), pname("y"), pstr(")\""), pat(api.PNil))
	l := grownPats(few, few)
	l = append(l, grownPats(l, few)...)
	l = append(l, grownPats(few, l)...)
	l = append(l, grownPats(grownPats(few[:1], few[4:]), grownPats(few[2:4], few[1:2]))...)
	return append(l, leafPats()...)
}

func grownPats(first, second []api.Pat) []api.Pat {
	var l []api.Pat
	for _, p := range first {
		for _, q := range second {
			for _, z := range pats(pat(api.PPair, p, q), cons(p, q)) {
				if tree.CheckPat(z) == api.OK {
					l = append(l, z)
				}
			}
		}
	}
	return l
}

func leafExprs() []api.Expr {
	l := []api.Expr{x, y, name("z'"), name("a_B0"), name(strings.Repeat("n", api.MaxName)), ex(api.EUnit), ex(api.ENil), truthOf(0), truthOf(1)}
	for _, n := range numbers() {
		l = append(l, num(n))
	}
	for _, s := range texts() {
		l = append(l, str(s))
	}
	return l
}

// above returns an expression of each form that has kids, with and without
// annotations, each operator and each number of arms: its kids are those given,
// in turn.
func above(kids ...api.Expr) []api.Expr {
	k := func(i int) api.Expr { return kids[i%len(kids)] }
	l := []api.Expr{
		ex(api.EPair, k(0), k(1)), ex(api.ECons, k(0), k(1)), ex(api.EApp, k(0), k(1)), ex(api.EIf, k(0), k(1), k(2)),
		fun("f", nothing, k(0)), fun("f", lists(1), k(0)), let("f", nothing, k(0), k(1)), let("f", tdyn, k(0), k(1)), asc(k(0), lists(2)), asc(k(0), tint),
		cases(pats(wild), k(0), k(1)), cases(pats(cons(pname("x"), cons(wild, wild)), pat(api.PPair, wild, pname("x"))), k(0), k(1), k(2)),
	}
	for o := api.OpAdd; o <= api.OpText; o++ {
		l = append(l, op(o, k(0), k(1)))
	}
	for _, a := range []api.Type{nothing, lists(1)} {
		for _, b := range []api.Type{nothing, tdyn, ty(api.TFun, tint, lists(1))} {
			l = append(l, rec("f", "a", a, b, k(0), k(1)))
		}
	}
	return l
}

// someExprs are expressions in which an expression of each form stands in each
// place of each form.
func someExprs() []api.Expr {
	l := leafExprs()
	forms := append(above(x), l...)
	for _, kid := range forms {
		l = append(l, above(kid, x, y)...)
		l = append(l, above(x, kid, y)...)
		l = append(l, above(x, y, kid)...)
		l = append(l, above(kid)...)
	}
	few := above(y)
	for i, kid := range above(few...) {
		l = append(l, above(kid, few[i%len(few)], few[i*7%len(few)])...)
	}
	for _, p := range somePats() {
		l = append(l, cases(pats(p), x, y), cases(pats(wild, p, wild), x, y, x, y))
	}
	return l
}

// P7.1: the texts of patterns and expressions.

func TestPatterns(t *testing.T) {
	a, b, c := pname("a"), pname("b"), pname("c")
	for want, p := range map[string]api.Pat{
		"_": wild, "x": pname("x"), "x'": pname("x'"), "0": pnum(0), "12": pnum(12), "~5": pnum(-5), "~9223372036854775808": pnum(math.MinInt64),
		"9223372036854775807": pnum(math.MaxInt64), "true": ptruth(1), "false": ptruth(0), `""`: pstr(""), `"a b"`: pstr("a b"), `"\22\5c\0a"`: pstr("\"\\\n"), "()": pat(api.PUnit), "[]": pat(api.PNil),
		"(a, b)": pat(api.PPair, a, b), "(_, _)": pat(api.PPair, wild, wild), "((a, b), c)": pat(api.PPair, pat(api.PPair, a, b), c), "(a, (b, c))": pat(api.PPair, a, pat(api.PPair, b, c)),
		"a :: b": cons(a, b), "a :: (b :: c)": cons(a, cons(b, c)), "(a :: b) :: c": cons(cons(a, b), c), "(a :: b) :: (c :: [])": cons(cons(a, b), cons(c, pat(api.PNil))),
		"(a :: b, c)": pat(api.PPair, cons(a, b), c), "(a, b :: c)": pat(api.PPair, a, cons(b, c)), "(a, b) :: c": cons(pat(api.PPair, a, b), c), "a :: (b, c)": cons(a, pat(api.PPair, b, c)),
		"(a :: (b :: c)) :: _": cons(cons(a, cons(b, c)), wild), "_ :: ((a :: b) :: c)": cons(wild, cons(cons(a, b), c)), "((a :: b, c), _) :: _": cons(pat(api.PPair, pat(api.PPair, cons(a, b), c), wild), wild),
		"~1 :: true": cons(pnum(-1), ptruth(1)), `"(" :: ()`: cons(pstr("("), pat(api.PUnit)),
	} {
		checkPat(t, p, want)
		checkText(t, cases(pats(p), name("e"), name("f")), "match e with "+want+" -> f end")
	}
	for _, p := range somePats() {
		checkPat(t, p, wantPat(p))
	}
}

func TestExpressions(t *testing.T) {
	pair, app, sum := ex(api.EPair, x, y), ex(api.EApp, x, y), op(api.OpAdd, x, y)
	list, f, choice := ex(api.ECons, x, y), fun("x", nothing, y), ex(api.EIf, x, y, x)
	m := cases(pats(wild), x, y)
	for _, c := range []struct {
		e    api.Expr
		want string
	}{
		{x, "x"}, {name("a'_B9"), "a'_B9"}, {num(0), "0"}, {num(42), "42"}, {num(-42), "~42"}, {num(math.MinInt64), "~9223372036854775808"}, {num(math.MaxInt64), "9223372036854775807"},
		{truthOf(1), "true"}, {truthOf(0), "false"}, {str(""), `""`}, {str("a b"), `"a b"`}, {str("\"\\\n\x7f\xff"), `"\22\5c\0a\7f\ff"`}, {ex(api.EUnit), "()"}, {ex(api.ENil), "[]"},
		{pair, "(x, y)"}, {ex(api.EPair, pair, list), "((x, y), x :: y)"}, {ex(api.EPair, app, f), "(x y, fun x -> y)"},
		{list, "x :: y"}, {ex(api.ECons, list, list), "(x :: y) :: (x :: y)"}, {ex(api.ECons, pair, ex(api.ENil)), "(x, y) :: []"},
		{app, "x y"}, {ex(api.EApp, app, x), "(x y) x"}, {ex(api.EApp, x, app), "x (x y)"}, {ex(api.EApp, f, num(-1)), "(fun x -> y) ~1"}, {ex(api.EApp, asc(x, tint), pair), "(x : int) (x, y)"}, {ex(api.EApp, ex(api.ENil), ex(api.EUnit)), "[] ()"},
		{sum, "x + y"}, {op(api.OpSub, x, y), "x - y"}, {op(api.OpMul, x, y), "x * y"}, {op(api.OpDiv, x, y), "x / y"}, {op(api.OpLess, x, y), "x < y"}, {op(api.OpSame, x, y), "x = y"}, {op(api.OpText, x, y), "x == y"},
		{op(api.OpSub, sum, sum), "(x + y) - (x + y)"}, {op(api.OpMul, app, num(-2)), "(x y) * ~2"}, {op(api.OpLess, choice, m), "(if x then y else x) < (match x with _ -> y end)"},
		{f, "fun x -> y"}, {fun("x", tdyn, f), "fun (x : ?) -> fun x -> y"}, {fun("x", ty(api.TFun, lists(1), tint), sum), "fun (x : (? list) -> int) -> x + y"},
		{let("z", nothing, x, y), "let z = x in y"}, {let("z", lists(1), f, app), "let z : ? list = fun x -> y in x y"}, {let("z", tint, let("z", nothing, x, y), let("w", nothing, y, x)), "let z : int = let z = x in y in let w = y in x"},
		{rec("f", "a", nothing, nothing, x, y), "let rec f a = x in y"}, {rec("f", "a", tint, nothing, x, y), "let rec f (a : int) = x in y"}, {rec("f", "a", nothing, tdyn, x, y), "let rec f a : ? = x in y"},
		{rec("f", "f", lists(1), ty(api.TPair, tint, tdyn), sum, app), "let rec f (f : ? list) : int * ? = x + y in x y"},
		{choice, "if x then y else x"}, {ex(api.EIf, choice, f, sum), "if if x then y else x then fun x -> y else x + y"},
		{m, "match x with _ -> y end"}, {cases(pats(pname("a"), pnum(-1), cons(cons(wild, wild), wild)), pair, x, m, f), "match (x, y) with a -> x | ~1 -> match x with _ -> y end | (_ :: _) :: _ -> fun x -> y end"},
		{asc(x, tint), "(x : int)"}, {asc(asc(f, lists(2)), tdyn), "((fun x -> y : (? list) list) : ?)"}, {asc(list, ty(api.TFun, tint, tint)), "(x :: y : int -> int)"},
	} {
		checkText(t, c.e, c.want)
	}
}

func TestExamplesOfTheDocument(t *testing.T) {
	for source, want := range map[string]string{"fun x->x y": "fun x -> x y", "f x y": "(f x) y", "1+2<3": "(1 + 2) < 3"} {
		e, _, _ := parse.Parse([]byte(source))
		checkText(t, e, want)
	}
}

func TestAllForms(t *testing.T) {
	kinds := map[int]struct{}{}
	for _, e := range someExprs() {
		kinds[e.Kind] = struct{}{}
		checkText(t, e, wantText(e))
	}
	if len(kinds) != 16 {
		t.Error(len(kinds))
	}
}

// Which kids stand in parentheses, told of each kind of kid in each place. A !
// stands for the kid.
func TestParentheses(t *testing.T) {
	whole := above(x)
	closed := slices.DeleteFunc(append(leafExprs(), whole...), func(e api.Expr) bool {
		return slices.Contains([]int{api.EFun, api.EApp, api.ELet, api.ERec, api.EIf, api.EMatch, api.EOp, api.ECons}, e.Kind)
	})
	places := func(kid api.Expr) map[string]api.Expr {
		return map[string]api.Expr{
			"(!, y)": ex(api.EPair, kid, y), "(y, !)": ex(api.EPair, y, kid), "fun f -> !": fun("f", nothing, kid), "(! : ?)": asc(kid, tdyn),
			"let f = ! in y": let("f", nothing, kid, y), "let f = y in !": let("f", nothing, y, kid), "let rec f a = ! in y": rec("f", "a", nothing, nothing, kid, y), "let rec f a = y in !": rec("f", "a", nothing, nothing, y, kid),
			"if ! then y else y": ex(api.EIf, kid, y, y), "if y then ! else y": ex(api.EIf, y, kid, y), "if y then y else !": ex(api.EIf, y, y, kid),
			"match ! with _ -> y | [] -> y end": cases(pats(wild, pat(api.PNil)), kid, y, y), "match y with _ -> ! | [] -> y end": cases(pats(wild, pat(api.PNil)), y, kid, y), "match y with _ -> y | [] -> ! end": cases(pats(wild, pat(api.PNil)), y, y, kid),
		}
	}
	operands := func(kid api.Expr) map[string]api.Expr {
		l := map[string]api.Expr{"! :: y": ex(api.ECons, kid, y), "y :: !": ex(api.ECons, y, kid), "! y": ex(api.EApp, kid, y), "y !": ex(api.EApp, y, kid)}
		for o, sign := range strings.Fields("+ - * / < = ==") {
			l["! "+sign+" y"], l["y "+sign+" !"] = op(o+1, kid, y), op(o+1, y, kid)
		}
		return l
	}
	for _, kid := range append(closed, whole...) {
		s := wantText(kid)
		for place, e := range places(kid) {
			checkText(t, e, strings.Replace(place, "!", s, 1))
		}
		if !slices.ContainsFunc(closed, func(e api.Expr) bool { return e.Kind == kid.Kind }) {
			s = "(" + s + ")"
		}
		for place, e := range operands(kid) {
			checkText(t, e, strings.Replace(place, "!", s, 1))
		}
	}
}

func TestAnnotationsInEachPlace(t *testing.T) {
	for _, a := range append(annotations(), nothing, api.Type{Kids: []api.Type{}}) {
		s, in := " : "+wantType(a), "(a : "+wantType(a)+")"
		if a.Kind == 0 {
			s, in = "", "a"
		} else {
			checkText(t, asc(x, a), "(x"+s+")")
		}
		checkText(t, fun("a", a, x), "fun "+in+" -> x")
		checkText(t, let("a", a, x, y), "let a"+s+" = x in y")
		checkText(t, rec("f", "a", a, nothing, x, y), "let rec f "+in+" = x in y")
		checkText(t, rec("f", "a", nothing, a, x, y), "let rec f a"+s+" = x in y")
		checkText(t, rec("f", "a", a, tdyn, x, y), "let rec f "+in+" : ? = x in y")
		checkText(t, rec("f", "a", lists(1), a, x, y), "let rec f (a : ? list)"+s+" = x in y")
	}
}

func TestEachByteOfAString(t *testing.T) {
	for c := range 256 {
		s := string([]byte{byte(c)})
		checkText(t, str(s), wantLiteral(s))
		checkPat(t, pstr("a"+s), wantLiteral("a"+s))
		checkBack(t, ex(api.EApp, str(s+"0"), str("0"+s)))
	}
}

// placed returns e with other places in the source in all its parts.
func placed(e api.Expr) api.Expr {
	e.At = api.Span{From: len(e.Kids) - 7, To: math.MinInt}
	e.Kids, e.Pats = slices.Clone(e.Kids), slices.Clone(e.Pats)
	for i := range e.Kids {
		e.Kids[i] = placed(e.Kids[i])
	}
	for i := range e.Pats {
		e.Pats[i] = placedPat(e.Pats[i])
	}
	return e
}

func placedPat(p api.Pat) api.Pat {
	p.At = api.Span{From: p.Kind, To: math.MaxInt}
	p.Kids = slices.Clone(p.Kids)
	for i := range p.Kids {
		p.Kids[i] = placedPat(p.Kids[i])
	}
	return p
}

func TestPlacesDoNotCount(t *testing.T) {
	for _, e := range someExprs() {
		checkText(t, placed(e), wantText(e))
	}
	for _, p := range somePats() {
		checkPat(t, placedPat(p), wantPat(p))
	}
}

func TestNilAndEmptyListsMeanTheSame(t *testing.T) {
	e := x
	e.Kids, e.Pats = []api.Expr{}, []api.Pat{}
	e.A.Kids, e.B.Kids = []api.Type{}, []api.Type{}
	p := pname("a")
	p.Kids = []api.Pat{}
	checkText(t, e, "x")
	checkPat(t, p, "a")
	f := cases(pats(p), e, e)
	f.A.Kids = []api.Type{}
	checkText(t, f, "match x with a -> x end")
}

// P7.1: what is not right.

func wrongPats() []api.Pat {
	l := pats(
		pat(0), pat(-1), pat(api.PCons+1), pat(99), pname(""), pname("X"), pname("let"), pname("int"), pname("1a"), pname("a b"), pname(strings.Repeat("a", api.MaxName+1)),
		ptruth(2), ptruth(-1), pstr(strings.Repeat("a", api.MaxStr+1)), pat(api.PPair), pat(api.PCons), pat(api.PPair, wild), pat(api.PCons, wild, wild, wild),
		pat(api.PAny, wild), pat(api.PUnit, wild), pat(api.PNil, wild, wild), pat(api.PName, wild), pat(api.PInt, wild),
		cons(pname("x"), pname("x")), pat(api.PPair, pname("x"), cons(wild, pname("x"))),
	)
	for _, p := range pats(wild, pname("x"), pnum(1), ptruth(1), pstr("a"), pat(api.PUnit), pat(api.PNil), cons(wild, wild), pat(api.PPair, wild, wild)) {
		for field, set := range map[string]func(*api.Pat){
			"Name": func(p *api.Pat) { p.Name = "y" }, "N": func(p *api.Pat) { p.N = 1 }, "S": func(p *api.Pat) { p.S = "b" },
		} {
			q := p
			set(&q)
			own := map[int]string{api.PName: "Name", api.PInt: "N", api.PBool: "N", api.PStr: "S"}
			if own[p.Kind] != field {
				l = append(l, q)
			}
		}
	}
	return l
}

func wrongAnnotations() []api.Type {
	return []api.Type{
		tvar, ty(api.TList, tvar), ty(api.TList), ty(api.TPair, tint), ty(api.TInt, tint), ty(api.TFun, tint, nothing),
		{N: 1}, {Kind: api.TInt, N: 1}, ty(0, tint), leaf(-1), leaf(10), {Kind: api.TFun, N: 1, Kids: []api.Type{tint, tint}},
	}
}

// wrongExprs are expressions that are not right in one field.
func wrongExprs() []api.Expr {
	l := []api.Expr{ex(0), ex(-1), ex(api.EOp + 1), ex(99), truthOf(2), truthOf(-1), str(strings.Repeat("a", api.MaxStr+1)), asc(x, nothing), op(0, x, y), op(api.OpText+1, x, y), op(-1, x, y), ex(api.EMatch, x), ex(api.EMatch)}
	for _, s := range []string{"", "X", "let", "list", "1a", "a b", "'a", strings.Repeat("a", api.MaxName+1)} {
		l = append(l, name(s), fun(s, nothing, x), let(s, nothing, x, y), rec(s, "a", nothing, nothing, x, y), rec("f", s, nothing, nothing, x, y))
	}
	for _, a := range wrongAnnotations() {
		l = append(l, fun("f", a, x), let("f", a, x, y), asc(x, a), rec("f", "a", a, nothing, x, y), rec("f", "a", nothing, a, x, y))
	}
	for _, p := range wrongPats() {
		l = append(l, cases(pats(p), x, y), cases(pats(wild, p), x, y, y), cases(pats(cons(wild, p)), x, y))
	}
	for _, e := range append(leafExprs()[:12], above(x)...) {
		more, less := e, e
		more.Kids = append(slices.Clone(e.Kids), x)
		l = append(l, more)
		if len(e.Kids) > 0 {
			less.Kids = e.Kids[1:]
			l = append(l, less)
		}
		l = append(l, fieldsTooMany(e)...)
	}
	return l
}

// fieldsTooMany returns a right expression with each field that its kind does
// not have.
func fieldsTooMany(e api.Expr) []api.Expr {
	own := map[int]string{
		api.EName: "Name", api.EInt: "N", api.EBool: "N", api.EStr: "S", api.EFun: "Name A", api.ELet: "Name A",
		api.ERec: "Name Arg A B", api.EMatch: "Pats", api.EAsc: "A", api.EOp: "Op",
	}
	fields := strings.Fields(own[e.Kind])
	var l []api.Expr
	for field, set := range map[string]func(*api.Expr){
		"Name": func(e *api.Expr) { e.Name = "z" }, "Arg": func(e *api.Expr) { e.Arg = "z" }, "N": func(e *api.Expr) { e.N = 1 }, "S": func(e *api.Expr) { e.S = "z" },
		"Op": func(e *api.Expr) { e.Op = 1 }, "A": func(e *api.Expr) { e.A = tint }, "B": func(e *api.Expr) { e.B = tint }, "Pats": func(e *api.Expr) { e.Pats = pats(wild) },
	} {
		if !slices.Contains(fields, field) {
			f := e
			set(&f)
			l = append(l, f)
		}
	}
	return l
}

func TestPatternsThatAreNotRight(t *testing.T) {
	for _, p := range wrongPats() {
		checkNoPat(t, p)
		checkNoPat(t, cons(p, wild))
		checkNoPat(t, pat(api.PPair, pat(api.PNil), cons(wild, p)))
	}
}

func TestExpressionsThatAreNotRight(t *testing.T) {
	for _, e := range wrongExprs() {
		checkNoText(t, e, api.ErrArg)
		for _, kids := range [][]api.Expr{{e, x, y}, {x, e, y}, {x, y, e}} {
			for _, f := range above(kids...) {
				if tree.Check(f) != api.OK {
					checkNoText(t, f, api.ErrArg)
				}
			}
		}
	}
}

// P7.1: how long a text may be.

// filler returns an expression whose text has so many bytes, 1 at least.
func filler(n int) api.Expr {
	if n <= api.MaxName {
		return name(strings.Repeat("n", n))
	}
	long := min(api.MaxStr, n-len(`("", n)`))
	return ex(api.EPair, str(strings.Repeat("s", long)), filler(n-len(`("", )`)-long))
}

func TestFiller(t *testing.T) {
	for n := 1; n < 1000; n++ {
		checkText(t, filler(n), wantText(filler(n)))
		if len(wantText(filler(n))) != n {
			t.Error(n)
		}
	}
}

// checkLongest holds Text against the limit for an expression of which a part
// can have any length: it takes so many bytes beside this part.
func checkLongest(t *testing.T, beside int, of func(n int) api.Expr) {
	t.Helper()
	for more := -2; more <= 3; more++ {
		e := of(api.MaxBytes - beside + more)
		want := wantText(e)
		if len(want) != api.MaxBytes+more {
			t.Fatal(len(want), more)
		}
		if more > 0 {
			checkNoText(t, e, api.ErrSize)
			continue
		}
		checkText(t, e, want)
		checkBack(t, e)
	}
}

func TestTheLongestTextOfEachForm(t *testing.T) {
	for i, e := range above(x) {
		for k := range e.Kids {
			with := func(n int) api.Expr {
				f := e
				f.Kids = slices.Clone(e.Kids)
				f.Kids[k] = filler(n)
				return f
			}
			checkLongest(t, len(wantText(e))-1, with)
		}
		if t.Failed() {
			t.Fatal("form", i)
		}
	}
	checkLongest(t, 0, filler)
}

// The text grows beyond the limit in each part of each form.
func TestEachPartCounts(t *testing.T) {
	for _, e := range append(leafExprs(), above(str("\n\"\\"), num(-1), ex(api.EApp, x, y))...) {
		n := len(wantText(e))
		checkLongest(t, 4+n, func(n int) api.Expr { return ex(api.EPair, e, filler(n)) })
		checkLongest(t, 4+n, func(n int) api.Expr { return ex(api.EPair, filler(n), e) })
	}
	for _, p := range leafPats() {
		n := len("match  with  -> x | _ -> y end") + len(wantPat(p))
		checkLongest(t, n, func(n int) api.Expr { return cases(pats(p, wild), filler(n), x, y) })
	}
}

func TestLongAnnotationsAndPatterns(t *testing.T) {
	for _, n := range []int{1, 300, 1000} {
		a, long := lists(n), len("? list")+7*(n-1)
		checkLongest(t, len("( : )")+long, func(n int) api.Expr { return asc(filler(n), a) })
		checkLongest(t, len("fun (x : ) -> ")+long, func(n int) api.Expr { return fun("x", a, filler(n)) })
		checkLongest(t, len("let x :  = y in ")+long, func(n int) api.Expr { return let("x", a, y, filler(n)) })
		checkLongest(t, len("let rec f (x : ) :  =  in y")+2*long, func(n int) api.Expr { return rec("f", "x", a, a, filler(n), y) })
	}
	for spare := range 12 {
		p := pstr(strings.Repeat("s", spare))
		for i := range 1000 {
			p = pat([]int{api.PPair, api.PCons, api.PCons}[i%3], wild, p)
		}
		room := api.MaxBytes - len("match  with  -> x end") - len(wantPat(p))
		checkText(t, cases(pats(p), filler(room), x), wantText(cases(pats(p), filler(room), x)))
		checkBack(t, cases(pats(p), filler(room), x))
		checkNoText(t, cases(pats(p), filler(room+1), x), api.ErrSize)
	}
}

func TestManyArms(t *testing.T) {
	// An arm takes 9 bytes, but for the first one, which takes 3 less.
	arms := (api.MaxBytes - len("match  with  end") - 1 + 3) / 9
	l, kids := slices.Repeat(pats(wild), arms), slices.Repeat([]api.Expr{y}, arms)
	room := api.MaxBytes - len("match  with  end") + 3 - 9*arms
	for more := range 30 {
		e := cases(l, append([]api.Expr{filler(room + more)}, kids...)...)
		if more > 0 {
			checkNoText(t, e, api.ErrSize)
			continue
		}
		want := "match " + wantText(filler(room)) + " with _ -> y" + strings.Repeat(" | _ -> y", arms-1) + " end"
		checkText(t, e, want)
		checkBack(t, e)
		if len(want) != api.MaxBytes {
			t.Error(len(want))
		}
	}
}

// The text of a pattern has no such limit.
func TestLongPatterns(t *testing.T) {
	p, q := wild, pname("x")
	const times = 20000
	for i := range times {
		p, q = cons(pstr(strings.Repeat("\xff", 200)), p), pat(api.PPair, q, pnum(int64(i)))
	}
	s, err := Pat(p)
	if want := strings.Repeat(`"`+strings.Repeat(`\ff`, 200)+`" :: (`, times-1); err != api.OK || !strings.HasPrefix(s, want) || len(s) != len(want)+606+1+times-1 {
		t.Error(err, len(s))
	}
	if s, err := Pat(q); err != api.OK || !strings.HasPrefix(s, strings.Repeat("(", times)+"x, 0), 1)") || !strings.HasSuffix(s, "), 19999)") {
		t.Error(err, len(s))
	}
	checkNoText(t, cases(pats(p), x, y), api.ErrSize)
}

func TestNotRightComesAheadOfTooLong(t *testing.T) {
	long := filler(api.MaxBytes + 1)
	checkNoText(t, long, api.ErrSize)
	for _, wrong := range wrongExprs() {
		checkNoText(t, ex(api.EPair, long, wrong), api.ErrArg)
		checkNoText(t, ex(api.EPair, wrong, long), api.ErrArg)
	}
	checkNoText(t, asc(long, tvar), api.ErrArg)
	checkNoText(t, asc(long, nothing), api.ErrArg)
	checkNoText(t, cases(pats(pname("X")), long, x), api.ErrArg)
}

// P7.2: what is written is read back.

func TestTextsAreReadBack(t *testing.T) {
	for _, e := range someExprs() {
		checkBack(t, e)
		checkBack(t, placed(e))
	}
}

func TestWhatIsParsedIsWrittenTheSameAgain(t *testing.T) {
	for _, source := range []string{
		"x", "(((x)))", "f x y z", "f(x)(y)", "a-b-c-~1", "a::b::c::[]", "(a::b)::c", "1+2*3::[]", "a b*c d+e<f g::[]", "a=b", "a==\"q\\0a\"",
		"let f:int->int=fun y->y in f 1", "let rec f(n:int*?list):?=if n<1 then 1 else n*f(n-1)in f 5", "let rec f n=n in f",
		"match(x,y)with(a::b,_)::c::[]->a|((_,~1))->(b:?)|true->()|\"\"->[]end", "match x with y->match y with z->z end|_->fun x->x end", "if if a then b else c then(d)else e",
		"((x:int list list):(unit->bool)*string)", "fun(x:?)->fun y->(x,(y,()))", "f(fun x->x)(let y=1 in y)",
	} {
		e, _, err := parse.Parse([]byte(source))
		if err != api.OK {
			t.Fatal(source)
		}
		checkText(t, e, wantText(e))
		checkBack(t, e)
	}
}

func TestDifferentExpressionsHaveDifferentTexts(t *testing.T) {
	of := map[string]api.Expr{}
	for _, e := range someExprs() {
		s, _ := Text(e)
		if other, ok := of[s]; ok && !tree.Same(e, other) {
			t.Errorf("%q twice", short(s))
		}
		of[s] = e
	}
}

// Deep ones: calls as deep as these are would not fit the stack.

func deep(depth int, bottom api.Expr, down func(api.Expr) api.Expr) api.Expr {
	for range depth {
		bottom = down(bottom)
	}
	return bottom
}

func TestDeepExpressions(t *testing.T) {
	defer debug.SetMaxStack(debug.SetMaxStack(1 << 20))
	for i, c := range []struct {
		down          func(e api.Expr) api.Expr
		before, after string
	}{
		{func(e api.Expr) api.Expr { return ex(api.EPair, x, e) }, "(x, ", ")"},
		{func(e api.Expr) api.Expr { return ex(api.EPair, e, x) }, "(", ", x)"},
		{func(e api.Expr) api.Expr { return ex(api.ECons, fun("x", nothing, e), y) }, "(fun x -> ", ") :: y"},
		{func(e api.Expr) api.Expr { return ex(api.ECons, x, cases(pats(wild), y, e)) }, "x :: (match y with _ -> ", " end)"},
		{func(e api.Expr) api.Expr { return ex(api.EApp, asc(e, tdyn), x) }, "(", " : ?) x"},
		{func(e api.Expr) api.Expr { return fun("x", tdyn, e) }, "fun (x : ?) -> ", ""},
		{func(e api.Expr) api.Expr { return let("x", nothing, e, y) }, "let x = ", " in y"},
		{func(e api.Expr) api.Expr { return rec("f", "x", nothing, nothing, y, e) }, "let rec f x = y in ", ""},
		{func(e api.Expr) api.Expr { return ex(api.EIf, e, x, y) }, "if ", " then x else y"},
		{func(e api.Expr) api.Expr { return cases(pats(wild, wild), x, y, e) }, "match x with _ -> y | _ -> ", " end"},
		{func(e api.Expr) api.Expr { return cases(pats(wild), e, y) }, "match ", " with _ -> y end"},
		{func(e api.Expr) api.Expr { return asc(e, lists(1)) }, "(", " : ? list)"},
	} {
		depth := (api.MaxBytes - 1) / len(c.before+c.after)
		e := deep(depth, y, c.down)
		checkText(t, e, strings.Repeat(c.before, depth)+"y"+strings.Repeat(c.after, depth))
		checkNoText(t, deep(1, e, c.down), api.ErrSize)
		checkNoText(t, deep(30000, y, c.down), api.ErrSize)
		checkNoText(t, deep(30000, name("X"), c.down), api.ErrArg)
		if t.Failed() {
			t.Fatal("case", i)
		}
	}
	for _, e := range []api.Expr{asc(x, lists(30000)), fun("x", lists(30000), x), let("x", lists(30000), x, y), rec("f", "x", tdyn, lists(30000), x, y)} {
		checkNoText(t, e, api.ErrSize)
	}
}

func TestDeepOperandsAreReadBack(t *testing.T) {
	for _, down := range []func(e api.Expr) api.Expr{
		func(e api.Expr) api.Expr { return ex(api.EApp, e, x) },
		func(e api.Expr) api.Expr { return ex(api.EApp, x, e) },
		func(e api.Expr) api.Expr { return ex(api.ECons, e, x) },
		func(e api.Expr) api.Expr { return ex(api.ECons, x, e) },
		func(e api.Expr) api.Expr { return op(api.OpLess, e, x) },
		func(e api.Expr) api.Expr { return op(api.OpSub, x, e) },
		func(e api.Expr) api.Expr { return ex(api.EApp, fun("x", nothing, e), x) },
		func(e api.Expr) api.Expr { return cases(pats(cons(cons(wild, wild), wild)), x, e) },
	} {
		size := len(wantText(down(down(y)))) - len(wantText(down(y)))
		checkBack(t, deep((api.MaxBytes-8)/size, y, down))
	}
}

func TestDeepPatterns(t *testing.T) {
	defer debug.SetMaxStack(debug.SetMaxStack(1 << 20))
	const depth = 30000
	for i, c := range []struct {
		kind          int
		first         bool
		before, after string
	}{{api.PPair, false, "(_, ", ")"}, {api.PPair, true, "(", ", _)"}, {api.PCons, false, "_ :: (", ")"}, {api.PCons, true, "(", ") :: _"}} {
		build := func(p api.Pat) api.Pat {
			for range depth {
				if c.first {
					p = pat(c.kind, p, wild)
				} else {
					p = pat(c.kind, wild, p)
				}
			}
			return p
		}
		bottom := cons(pname("x"), wild)
		s, err := Pat(build(bottom))
		if err != api.OK || s != strings.Repeat(c.before, depth)+"x :: _"+strings.Repeat(c.after, depth) {
			t.Error(i, err, short(s))
		}
		checkNoPat(t, build(pname("X")))
		checkNoText(t, cases(pats(build(bottom)), x, y), api.ErrSize)
	}
}

func TestSharedPartsAreWrittenEachTime(t *testing.T) {
	e, p := x, wild
	for range 10 {
		e, p = ex(api.EPair, e, e), pat(api.PPair, p, p)
	}
	checkText(t, e, wantText(e))
	checkPat(t, p, wantPat(p))
	if len(wantText(e)) != 1024+4*1023 {
		t.Error(len(wantText(e)))
	}
	for range 10 {
		e, p = ex(api.EApp, e, e), cons(p, p)
	}
	checkNoText(t, e, api.ErrSize)
	checkNoText(t, cases(pats(p), x, y), api.ErrSize)
	// Of a leaf there are 1024 * 1024, of a pair between them 1023 * 1024, and
	// of :: with parentheses around it, but for one, 1023.
	if s, err := Pat(p); err != api.OK || len(s) != 1<<20+4*1023<<10+(4+2)*1023-2 {
		t.Error(err, len(s))
	}
}

// R2, R3: arguments are not changed, and the same one has the same text again.

func spare[T any](l []T, behind ...T) []T {
	return append(slices.Clone(l), behind...)[:len(l)]
}

func spareType(a api.Type) api.Type {
	a.Kids = spare(a.Kids, tvar, tint)
	for i := range a.Kids {
		a.Kids[i] = spareType(a.Kids[i])
	}
	return a
}

func sparePat(p api.Pat) api.Pat {
	p.Kids = spare(p.Kids, pname("behind"), api.Pat{})
	for i := range p.Kids {
		p.Kids[i] = sparePat(p.Kids[i])
	}
	return p
}

func spareExpr(e api.Expr) api.Expr {
	e.A, e.B = spareType(e.A), spareType(e.B)
	e.Kids, e.Pats = spare(e.Kids, name("behind"), api.Expr{}), spare(e.Pats, wild, pat(77))
	for i := range e.Kids {
		e.Kids[i] = spareExpr(e.Kids[i])
	}
	for i := range e.Pats {
		e.Pats[i] = sparePat(e.Pats[i])
	}
	return e
}

// wholly shows an expression with what lies behind its lists.
func wholly(e api.Expr) string {
	s := fmt.Sprint("<", e.Kind, e.At, e.Name, e.Arg, e.N, e.S, e.Op, wholeType(e.A), wholeType(e.B), len(e.Kids), cap(e.Kids), len(e.Pats), cap(e.Pats))
	for _, kid := range e.Kids[:cap(e.Kids)] {
		s += wholly(kid)
	}
	for _, p := range e.Pats[:cap(e.Pats)] {
		s += wholePat(p)
	}
	return s + ">"
}

func wholeType(a api.Type) string {
	s := fmt.Sprint("(", a.Kind, a.N, len(a.Kids), cap(a.Kids))
	for _, kid := range a.Kids[:cap(a.Kids)] {
		s += wholeType(kid)
	}
	return s + ")"
}

func wholePat(p api.Pat) string {
	s := fmt.Sprint("[", p.Kind, p.At, p.Name, p.N, p.S, len(p.Kids), cap(p.Kids))
	for _, kid := range p.Kids[:cap(p.Kids)] {
		s += wholePat(kid)
	}
	return s + "]"
}

func TestArgumentsAreNotChanged(t *testing.T) {
	for _, right := range above(fun("f", lists(1), x), cases(pats(cons(wild, cons(wild, wild)), pat(api.PPair, wild, pnum(1))), x, y, x), op(api.OpAdd, x, y)) {
		e := spareExpr(right)
		before := wholly(e)
		checkText(t, e, wantText(right))
		checkText(t, e, wantText(right))
		for _, p := range e.Pats {
			checkPat(t, p, wantPat(p))
		}
		if wholly(e) != before {
			t.Errorf("%.300s is changed", wantText(right))
		}
	}
	for _, wrong := range wrongExprs() {
		e := spareExpr(wrong)
		before := wholly(e)
		checkNoText(t, e, api.ErrArg)
		for _, p := range e.Pats {
			Pat(p)
		}
		if wholly(e) != before {
			t.Errorf("%.300v is changed", wrong)
		}
	}
}

// FuzzText takes any source: what it is parsed as is written and read back.
func FuzzText(f *testing.F) {
	for _, e := range above(fun("f", lists(1), x), cases(pats(cons(wild, cons(wild, wild)), pat(api.PPair, wild, pnum(-1))), x, y, str("\""))) {
		f.Add([]byte(wantText(e)))
	}
	f.Fuzz(func(t *testing.T, source []byte) {
		e, _, err := parse.Parse(bytes.Clone(source))
		if err != api.OK {
			checkNoText(t, e, api.ErrArg)
			return
		}
		if want := wantText(e); len(want) > api.MaxBytes {
			checkNoText(t, e, api.ErrSize)
		} else {
			checkText(t, e, want)
			checkBack(t, e)
		}
	})
}
