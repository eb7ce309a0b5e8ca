package tree

import (
	"fmt"
	"math"
	"regexp"
	"runtime/debug"
	"slices"
	"strings"
	"testing"

	"surety/api"
	"surety/typ"
)

// Builders of expressions, patterns and types, right or not.

func ex(kind int, kids ...api.Expr) api.Expr { return api.Expr{Kind: kind, Kids: kids} }

func name(s string) api.Expr { return api.Expr{Kind: api.EName, Name: s} }

func num(n int64) api.Expr { return api.Expr{Kind: api.EInt, N: n} }

func truthOf(n int64) api.Expr { return api.Expr{Kind: api.EBool, N: n} }

func str(s string) api.Expr { return api.Expr{Kind: api.EStr, S: s} }

func fun(s string, a api.Type, body api.Expr) api.Expr {
	return api.Expr{Kind: api.EFun, Name: s, A: a, Kids: []api.Expr{body}}
}

func let(s string, a api.Type, bound, body api.Expr) api.Expr {
	return api.Expr{Kind: api.ELet, Name: s, A: a, Kids: []api.Expr{bound, body}}
}

func rec(f, s string, a, b api.Type, body, rest api.Expr) api.Expr {
	return api.Expr{Kind: api.ERec, Name: f, Arg: s, A: a, B: b, Kids: []api.Expr{body, rest}}
}

func asc(e api.Expr, a api.Type) api.Expr {
	return api.Expr{Kind: api.EAsc, A: a, Kids: []api.Expr{e}}
}

func op(o int, x, y api.Expr) api.Expr {
	return api.Expr{Kind: api.EOp, Op: o, Kids: []api.Expr{x, y}}
}

func match(pats []api.Pat, kids ...api.Expr) api.Expr {
	return api.Expr{Kind: api.EMatch, Pats: pats, Kids: kids}
}

func pats(l ...api.Pat) []api.Pat { return l }

func pat(kind int, kids ...api.Pat) api.Pat { return api.Pat{Kind: kind, Kids: kids} }

func pname(s string) api.Pat { return api.Pat{Kind: api.PName, Name: s} }

func pnum(n int64) api.Pat { return api.Pat{Kind: api.PInt, N: n} }

func ptruth(n int64) api.Pat { return api.Pat{Kind: api.PBool, N: n} }

func pstr(s string) api.Pat { return api.Pat{Kind: api.PStr, S: s} }

func leaf(kind int) api.Type { return api.Type{Kind: kind} }

func node(kind int, kids ...api.Type) api.Type { return api.Type{Kind: kind, Kids: kids} }

// lists returns a list of lists, so many times, of ?.
func lists(n int) api.Type {
	t := leaf(api.TDyn)
	for range n {
		t = node(api.TList, t)
	}
	return t
}

var (
	nothing = api.Type{}
	tint    = leaf(api.TInt)
	tdyn    = leaf(api.TDyn)
	tvar    = leaf(api.TVar)
)

// rightAnnotations are right and closed types.
func rightAnnotations() []api.Type {
	return []api.Type{
		tint, leaf(api.TBool), leaf(api.TStr), leaf(api.TUnit), tdyn,
		node(api.TPair, tint, tdyn), node(api.TList, tdyn), node(api.TFun, tdyn, tint), lists(5),
		node(api.TFun, node(api.TPair, lists(2), tint), node(api.TFun, tint, lists(1))),
		{Kind: api.TInt, Kids: []api.Type{}},
	}
}

// wrongAnnotations are types that are neither none nor right and closed.
func wrongAnnotations() []api.Type {
	return []api.Type{
		tvar, {Kind: api.TVar, N: 7}, {Kind: api.TVar, N: -1}, {Kind: api.TVar, N: api.MaxVar + 1},
		node(api.TList, tvar), node(api.TPair, tint, tvar), node(api.TFun, node(api.TList, tvar), tint),
		node(api.TInt, tint), node(api.TList), node(api.TList, tint, tint), node(api.TPair, tint), node(api.TFun, tint, tint, tint),
		node(api.TList, nothing), node(api.TPair, nothing, tint), node(api.TFun, tint, lists(0), nothing),
		{N: 1}, {N: -1}, node(0, tint), node(0, nothing), leaf(-1), leaf(10), leaf(99),
		{Kind: api.TInt, N: 1}, {Kind: api.TDyn, N: 1}, {Kind: api.TFun, N: 1, Kids: []api.Type{tint, tint}},
	}
}

// The tests hold the functions against the text of a tree, in which every
// field is seen and what the chapter asks for can be told without going through
// the tree: each expression is <kind @at ... {A} {B} pats kids>, each pattern
// [kind @at ... kids], and { } with a ! stands for an annotation that is none.
// Strings are written in hexadecimal.

func typeText(t api.Type) string {
	var b strings.Builder
	fmt.Fprintf(&b, "(%d.%d", t.Kind, t.N)
	for _, kid := range t.Kids {
		b.WriteString(typeText(kid))
	}
	b.WriteString(")")
	return b.String()
}

func annText(t api.Type) string {
	if s := typeText(t); s != "(0.0)" {
		return "{" + s + "}"
	}
	return "{!}"
}

func atText(at api.Span) string { return fmt.Sprintf("@%d,%d;", at.From, at.To) }

func patText(p api.Pat) string {
	var b strings.Builder
	fmt.Fprintf(&b, "[%d %s%x %d %x", p.Kind, atText(p.At), p.Name, p.N, p.S)
	for _, kid := range p.Kids {
		b.WriteString(patText(kid))
	}
	b.WriteString("]")
	return b.String()
}

func text(e api.Expr) string {
	var b strings.Builder
	fmt.Fprintf(&b, "<%d %s%x %x %d %x %d", e.Kind, atText(e.At), e.Name, e.Arg, e.N, e.S, e.Op)
	b.WriteString(annText(e.A) + annText(e.B))
	for _, p := range e.Pats {
		b.WriteString(patText(p))
	}
	for _, kid := range e.Kids {
		b.WriteString(text(kid))
	}
	b.WriteString(">")
	return b.String()
}

var (
	anyAt  = regexp.MustCompile(`@-?\d+,-?\d+;`)
	anyAnn = regexp.MustCompile(`\{[^!}]*\}`)
)

// bareText is the text with every At zero.
func bareText(s string) string { return anyAt.ReplaceAllString(s, "@0,0;") }

// wantAnns are the annotations in a text that are not none.
func wantAnns(s string) []string { return anyAnn.FindAllString(s, -1) }

// wantWith is the text with others in the place of its annotations.
func wantWith(s string, l []api.Type) string {
	next := 0
	return anyAnn.ReplaceAllStringFunc(s, func(string) string {
		next++
		return annText(l[next-1])
	})
}

func annTexts(l []api.Type) []string {
	var texts []string
	for _, t := range l {
		texts = append(texts, annText(t))
	}
	return texts
}

func wantPatDepth(p api.Pat) int {
	greatest := 0
	for _, kid := range p.Kids {
		greatest = max(greatest, wantPatDepth(kid))
	}
	return 1 + greatest
}

func wantDepth(e api.Expr) int {
	l := []int{0}
	for _, kid := range e.Kids {
		l = append(l, wantDepth(kid))
	}
	for _, p := range e.Pats {
		l = append(l, wantPatDepth(p))
	}
	for _, a := range []api.Type{e.A, e.B} {
		if annText(a) != "{!}" {
			l = append(l, typ.Depth(a))
		}
	}
	return 1 + slices.Max(l)
}

// The fields and numbers of kids of each kind, as the chapter lists them: n is
// any N and t one that is 0 or 1, A? may be none and A may not.
func exprShapes() map[int]string {
	return map[int]string{
		api.EName: "name; 0", api.EInt: "n; 0", api.EBool: "t; 0", api.EStr: "s; 0", api.EUnit: "; 0", api.ENil: "; 0",
		api.EPair: "; 2", api.ECons: "; 2", api.EApp: "; 2", api.EFun: "name A?; 1", api.ELet: "name A?; 2",
		api.ERec: "name arg A? B?; 2", api.EIf: "; 3", api.EMatch: "pats; pats", api.EAsc: "A; 1", api.EOp: "op; 2",
	}
}

func patShapes() map[int]string {
	return map[int]string{
		api.PAny: "; 0", api.PName: "name; 0", api.PInt: "n; 0", api.PBool: "t; 0", api.PStr: "s; 0",
		api.PUnit: "; 0", api.PPair: "; 2", api.PNil: "; 0", api.PCons: "; 2",
	}
}

var nameShape = regexp.MustCompile(`^[a-z][a-zA-Z0-9_']{0,31}$`)

func wantName(s string) bool {
	words := strings.Fields("let rec in fun if then else match with end true false int bool string unit list")
	return nameShape.MatchString(s) && !slices.Contains(words, s)
}

// fits holds one field against a shape: a field that is not in it is to be zero.
func fits(shape, field string, zero, right bool) bool {
	fields, _, _ := strings.Cut(shape, ";")
	if !slices.Contains(strings.Fields(fields), field) {
		return zero
	}
	return right
}

func fitsN(shape string, n int64) bool {
	if strings.HasPrefix(shape, "n") && !strings.HasPrefix(shape, "name") {
		return true
	}
	return fits(shape, "t", n == 0, n*n == n)
}

func fitsKids(shape string, kids, patterns int) bool {
	_, n, _ := strings.Cut(shape, "; ")
	if n == "pats" {
		return kids == patterns+1
	}
	return n == fmt.Sprint(kids)
}

func wantPat(p api.Pat) bool {
	found := map[string]bool{}
	var right func(p api.Pat) bool
	right = func(p api.Pat) bool {
		shape, ok := patShapes()[p.Kind]
		ok = ok && fits(shape, "name", p.Name == "", wantName(p.Name)) && fitsN(shape, p.N) &&
			fits(shape, "s", p.S == "", len(p.S) <= 200) && fitsKids(shape, len(p.Kids), 0)
		if ok && p.Name != "" {
			ok = !found[p.Name]
			found[p.Name] = true
		}
		for _, kid := range p.Kids {
			ok = ok && right(kid)
		}
		return ok
	}
	return right(p)
}

func wantAnn(t api.Type) bool { return typ.Check(t) == api.OK && len(typ.Vars(t)) == 0 }

func fitsAnn(shape, field string, t api.Type) bool {
	zero := annText(t) == "{!}"
	if fits(shape, field+"?", zero, zero || wantAnn(t)) {
		return fits(shape, field, zero || strings.Contains(shape, field+"?"), wantAnn(t))
	}
	return fits(shape, field, false, wantAnn(t))
}

func wantRight(e api.Expr) bool {
	shape, ok := exprShapes()[e.Kind]
	ok = ok && fits(shape, "name", e.Name == "", wantName(e.Name)) && fits(shape, "arg", e.Arg == "", wantName(e.Arg)) &&
		fitsN(shape, e.N) && fits(shape, "s", e.S == "", len(e.S) <= 200) && fits(shape, "op", e.Op == 0, 1 <= e.Op && e.Op <= 7) &&
		fitsAnn(shape, "A", e.A) && fitsAnn(shape, "B", e.B) &&
		fits(shape, "pats", len(e.Pats) == 0, len(e.Pats) > 0) && fitsKids(shape, len(e.Kids), len(e.Pats))
	for _, p := range e.Pats {
		ok = ok && wantPat(p)
	}
	for _, kid := range e.Kids {
		ok = ok && wantRight(kid)
	}
	return ok
}

// wantValue is what the chapter says of a right expression.
func wantValue(e api.Expr) bool {
	if e.Kind == api.EPair || e.Kind == api.ECons {
		return wantValue(e.Kids[0]) && wantValue(e.Kids[1])
	}
	return e.Kind == api.EFun || len(e.Kids) == 0
}

func patNames(p api.Pat) []string {
	var l []string
	if p.Kind == api.PName {
		l = append(l, p.Name)
	}
	for _, kid := range p.Kids {
		l = append(l, patNames(kid)...)
	}
	return l
}

// wantFree is what is free in the kids of a right expression, without what it binds there.
func wantFree(e api.Expr) []string {
	var l []string
	if e.Kind == api.EName {
		l = append(l, e.Name)
	}
	for k, kid := range e.Kids {
		var bound []string
		switch fmt.Sprint(e.Kind, ".", k) {
		case "9.0", "11.1", "12.1":
			bound = []string{e.Name}
		case "12.0":
			bound = []string{e.Name, e.Arg}
		default:
			if e.Kind == api.EMatch && k > 0 {
				bound = patNames(e.Pats[k-1])
			}
		}
		for _, s := range wantFree(kid) {
			if !slices.Contains(bound, s) {
				l = append(l, s)
			}
		}
	}
	slices.Sort(l)
	return slices.Compact(l)
}

// results are the results of all functions of one expression.
type results struct {
	check       api.Errno
	size, depth int
	value       bool
	free, anns  string
	bare        string
}

func resultsOf(e api.Expr) results {
	return results{Check(e), Size(e), Depth(e), Value(e), fmt.Sprint(Free(e)), fmt.Sprint(annTexts(Anns(e))), text(Bare(e))}
}

func wantResults(e api.Expr) results {
	s := text(e)
	want := results{check: api.ErrArg, size: strings.Count(s, "<"), depth: wantDepth(e), free: "[]", anns: "[]", bare: bareText(s)}
	if wantRight(e) {
		want.check, want.value = api.OK, wantValue(e)
		want.free, want.anns = fmt.Sprint(wantFree(e)), fmt.Sprint(wantAnns(s))
	}
	return want
}

func checkExpr(t *testing.T, e api.Expr) {
	t.Helper()
	if got, want := resultsOf(e), wantResults(e); got != want {
		t.Errorf("%.300s: %.600s, want %.600s", text(e), fmt.Sprintf("%+v", got), fmt.Sprintf("%+v", want))
	}
}

func checkSame(t *testing.T, x, y api.Expr, want bool) {
	t.Helper()
	if Same(x, y) != want || Same(y, x) != want {
		t.Errorf("Same of %.300s and %.300s is not %v", text(x), text(y), want)
	}
}

func checkRight(t *testing.T, e api.Expr, want api.Errno) {
	t.Helper()
	if got := Check(e); got != want {
		t.Errorf("Check of %.300s is %v, want %v", text(e), int(got), int(want))
	}
	if (want == api.OK) != wantRight(e) {
		t.Errorf("%.300s: the test's own wantRight is not as expected", text(e))
	}
}

func checkRightPat(t *testing.T, p api.Pat, want api.Errno) {
	t.Helper()
	if got := CheckPat(p); got != want {
		t.Errorf("CheckPat of %.300s is %v, want %v", patText(p), int(got), int(want))
	}
	if (want == api.OK) != wantPat(p) {
		t.Errorf("%.300s: the test's own wantPat is not as expected", patText(p))
	}
}

// rightPatterns are right patterns of each kind.
func rightPatterns() []api.Pat {
	any, x := pat(api.PAny), pname("x")
	return []api.Pat{
		any, pat(api.PUnit), pat(api.PNil), x, pname("x'"), pname("aZ_09'"), pname("a" + strings.Repeat("b", 31)), pname("lets"),
		pnum(0), pnum(1), pnum(2), pnum(-1), pnum(math.MinInt64), pnum(math.MaxInt64), ptruth(0), ptruth(1),
		pstr(""), pstr("a"), pstr("\x00\xff\n\""), pstr(strings.Repeat("\xff", 200)),
		pat(api.PPair, any, any), pat(api.PCons, any, any), pat(api.PPair, x, pname("y")), pat(api.PCons, x, pat(api.PNil)),
		pat(api.PCons, pat(api.PPair, pnum(3), x), pat(api.PCons, pname("x'"), pat(api.PPair, ptruth(1), pname("xx")))),
		pat(api.PPair, pstr("x"), x), pat(api.PPair, pat(api.PPair, pat(api.PPair, any, x), pstr("")), pat(api.PUnit)),
	}
}

// rightExprs are right expressions of each kind.
func rightExprs() []api.Expr {
	x, y, f, any := name("x"), name("y"), name("f"), pat(api.PAny)
	l := []api.Expr{
		x, name("x'"), name("a" + strings.Repeat("Z", 31)), name("inn"), num(0), num(1), num(-7), num(math.MinInt64), num(math.MaxInt64),
		truthOf(0), truthOf(1), str(""), str("a\x00\"\xff"), str(strings.Repeat("a", 200)), ex(api.EUnit), ex(api.ENil),
		ex(api.EPair, x, y), ex(api.ECons, num(1), ex(api.ENil)), ex(api.EApp, f, x), ex(api.EApp, num(1), num(2)),
		fun("x", nothing, x), fun("x", nothing, y), let("x", nothing, x, x), let("x", nothing, num(1), ex(api.EPair, y, x)),
		rec("f", "x", nothing, nothing, ex(api.EApp, f, x), ex(api.EApp, f, x)), rec("f", "f", nothing, nothing, f, f),
		rec("f", "x", tint, nothing, x, f), rec("f", "x", nothing, tdyn, y, y), rec("f", "x", lists(1), tint, f, x),
		ex(api.EIf, x, num(1), y), match(pats(any), x, y), match(pats(pname("x"), pname("x")), x, x, x),
		match(pats(pat(api.PCons, pname("x"), pname("y")), pat(api.PNil), any), f, ex(api.EPair, x, y), num(0), y), asc(x, tdyn),
	}
	for o := api.OpAdd; o <= api.OpText; o++ {
		l = append(l, op(o, x, num(1)))
	}
	for _, a := range rightAnnotations() {
		l = append(l, fun("x", a, x), let("y", a, x, y), rec("f", "x", a, nothing, f, f), rec("f", "x", nothing, a, f, f), asc(x, a), rec("f", "x", a, a, f, f))
	}
	for _, p := range rightPatterns() {
		l = append(l, match(pats(p), x, y), match(pats(any, p, p), f, x, x, ex(api.EApp, x, y)))
	}
	return l
}

// above lays an expression into each kid of each kind, beside right ones.
func above(e api.Expr) []api.Expr {
	x, any := name("x"), pats(pat(api.PAny))
	return []api.Expr{
		ex(api.EPair, e, x), ex(api.EPair, x, e), ex(api.ECons, e, x), ex(api.ECons, x, e), ex(api.EApp, e, x), ex(api.EApp, x, e),
		fun("x", nothing, e), fun("y", tint, e), let("x", nothing, e, x), let("x", tdyn, x, e), let("y", nothing, e, e),
		rec("f", "x", nothing, tint, e, x), rec("f", "x", nothing, nothing, x, e), rec("x", "y", tdyn, nothing, e, e),
		ex(api.EIf, e, x, x), ex(api.EIf, x, e, x), ex(api.EIf, x, x, e), match(any, e, x), match(any, x, e), asc(e, lists(1)),
		match(pats(pname("x"), pat(api.PPair, pname("y"), pname("f"))), x, e, e), match(pats(pname("y"), pname("x")), e, x, e),
		op(1, e, x), op(7, x, e),
	}
}

// oneChange calls f for e with one field of one expression or pattern changed.
func oneChange(e api.Expr, f func(api.Expr)) {
	with := func(change func(*api.Expr)) {
		x := e
		x.Kids, x.Pats = slices.Clone(e.Kids), slices.Clone(e.Pats)
		change(&x)
		f(x)
	}
	with(func(x *api.Expr) { x.Kind++ })
	with(func(x *api.Expr) { x.Kind-- })
	with(func(x *api.Expr) { x.Kind += 256 })
	with(func(x *api.Expr) { x.Name += "a" })
	with(func(x *api.Expr) { x.Arg += "a" })
	with(func(x *api.Expr) { x.N++ })
	with(func(x *api.Expr) { x.N -= 1 << 32 })
	with(func(x *api.Expr) { x.S += "\x00" })
	with(func(x *api.Expr) { x.Op++ })
	with(func(x *api.Expr) { x.A.Kind++ })
	with(func(x *api.Expr) { x.B.Kind++ })
	with(func(x *api.Expr) { x.A.N++ })
	with(func(x *api.Expr) { x.B.N-- })
	with(func(x *api.Expr) { x.A.Kids = append(slices.Clip(x.A.Kids), nothing) })
	with(func(x *api.Expr) { x.B.Kids = append(slices.Clip(x.B.Kids), tint) })
	with(func(x *api.Expr) { x.Kids = append(x.Kids, name("x")) })
	with(func(x *api.Expr) { x.Kids = append([]api.Expr{{}}, x.Kids...) })
	with(func(x *api.Expr) { x.Pats = append(x.Pats, pat(api.PAny)) })
	with(func(x *api.Expr) { x.Pats = append(pats(api.Pat{}), x.Pats...) })
	for i := range e.Kids {
		with(func(x *api.Expr) { x.Kids = slices.Delete(x.Kids, i, i+1) })
		oneChange(e.Kids[i], func(kid api.Expr) { with(func(x *api.Expr) { x.Kids[i] = kid }) })
	}
	for i := range e.Pats {
		with(func(x *api.Expr) { x.Pats = slices.Delete(x.Pats, i, i+1) })
		onePatChange(e.Pats[i], func(p api.Pat) { with(func(x *api.Expr) { x.Pats[i] = p }) })
	}
}

// onePatChange calls f for p with one field of one node changed.
func onePatChange(p api.Pat, f func(api.Pat)) {
	with := func(change func(*api.Pat)) {
		x := p
		x.Kids = slices.Clone(p.Kids)
		change(&x)
		f(x)
	}
	with(func(x *api.Pat) { x.Kind++ })
	with(func(x *api.Pat) { x.Kind-- })
	with(func(x *api.Pat) { x.Kind += 256 })
	with(func(x *api.Pat) { x.Name += "a" })
	with(func(x *api.Pat) { x.N++ })
	with(func(x *api.Pat) { x.N -= 1 << 32 })
	with(func(x *api.Pat) { x.S += "a" })
	with(func(x *api.Pat) { x.Kids = append(x.Kids, pat(api.PAny)) })
	with(func(x *api.Pat) { x.Kids = append(pats(api.Pat{}), x.Kids...) })
	for i := range p.Kids {
		with(func(x *api.Pat) { x.Kids = slices.Delete(x.Kids, i, i+1) })
		onePatChange(p.Kids[i], func(kid api.Pat) { with(func(x *api.Pat) { x.Kids[i] = kid }) })
	}
}

// someExprs are expressions right and not, of a few levels.
func someExprs() []api.Expr {
	l := rightExprs()
	right := len(l)
	for _, e := range l[:right] {
		oneChange(e, func(x api.Expr) { l = append(l, x) })
	}
	for i := 0; i < right; i += 4 {
		l = append(l, above(l[i])...)
	}
	for i := 0; i < len(l); i += 41 {
		l = append(l, above(l[i])...)
	}
	return l
}

// spans gives every At of an expression and its patterns a span of its own.
func spans(e api.Expr) api.Expr {
	next := 0
	span := func() api.Span {
		next += 3
		return api.Span{From: next, To: -next * 5}
	}
	var inPat func(p api.Pat) api.Pat
	inPat = func(p api.Pat) api.Pat {
		p.At, p.Kids = span(), slices.Clone(p.Kids)
		for i := range p.Kids {
			p.Kids[i] = inPat(p.Kids[i])
		}
		return p
	}
	var in func(e api.Expr) api.Expr
	in = func(e api.Expr) api.Expr {
		e.At, e.Kids, e.Pats = span(), slices.Clone(e.Kids), slices.Clone(e.Pats)
		for i := range e.Kids {
			e.Kids[i] = in(e.Kids[i])
		}
		for i := range e.Pats {
			e.Pats[i] = inPat(e.Pats[i])
		}
		return e
	}
	return in(e)
}

// P5.1: right patterns.

func TestRightPatterns(t *testing.T) {
	for _, p := range rightPatterns() {
		checkRightPat(t, p, api.OK)
		p.At = api.Span{From: math.MaxInt, To: math.MinInt}
		checkRightPat(t, p, api.OK)
		checkRightPat(t, pat(api.PPair, p, pat(api.PNil)), api.OK)
		checkRightPat(t, pat(api.PCons, pname("another"), p), api.OK)
	}
}

// wrongNodes are patterns that are wrong by themselves.
func wrongNodes() []api.Pat {
	l := []api.Pat{
		pname(""), pname("X"), pname("_"), pname("1"), pname("x y"), pname("x-"), pname("\xff"), pname("a" + strings.Repeat("b", 32)),
		ptruth(2), ptruth(-1), ptruth(math.MinInt64), pstr(strings.Repeat("a", 201)), pstr(strings.Repeat("a", 1000)),
	}
	for _, s := range strings.Fields("let rec in fun if then else match with end true false int bool string unit list") {
		l = append(l, pname(s))
	}
	for _, kind := range []int{math.MinInt, -1, 0, 10, 11, 16, 256 + api.PAny, 1<<32 + api.PUnit, math.MaxInt} {
		l = append(l, pat(kind), pat(kind, pat(api.PAny)), pat(kind, pat(api.PAny), pat(api.PNil)))
	}
	return l
}

func TestPatternsThatAreNotRight(t *testing.T) {
	for _, p := range wrongNodes() {
		checkRightPat(t, p, api.ErrArg)
		for _, kind := range []int{api.PPair, api.PCons} {
			checkRightPat(t, pat(kind, p, pat(api.PAny)), api.ErrArg)
			checkRightPat(t, pat(kind, pat(api.PAny), p), api.ErrArg)
			checkRightPat(t, pat(kind, pat(api.PAny), pat(kind, pat(kind, pname("x"), p), pname("y"))), api.ErrArg)
		}
	}
}

func TestAPatternWithAFieldTooMany(t *testing.T) {
	for _, p := range rightPatterns() {
		shape := patShapes()[p.Kind]
		for field, change := range map[string]func(*api.Pat){
			"name": func(p *api.Pat) { p.Name = "z" },
			"n t":  func(p *api.Pat) { p.N = 1 },
			"s":    func(p *api.Pat) { p.S = "z" },
		} {
			x := p
			change(&x)
			fields, _, _ := strings.Cut(shape, ";")
			if fields == "" || !slices.Contains(strings.Fields(field), fields) {
				checkRightPat(t, x, api.ErrArg)
			} else {
				checkRightPat(t, x, api.OK)
			}
		}
	}
}

func TestAPatternWithAKidTooManyOrTooFew(t *testing.T) {
	kids := pats(pat(api.PAny), pname("y"), pat(api.PUnit), pnum(1))
	for _, p := range rightPatterns() {
		for n := range len(kids) + 1 {
			want := api.ErrArg
			if n == len(p.Kids) {
				want = api.OK
			}
			x := p
			x.Kids = kids[:n]
			checkRightPat(t, x, want)
		}
	}
}

func TestANameTwiceInAPattern(t *testing.T) {
	x, y := pname("x"), pname("y")
	// down lays a pattern somewhere into another one.
	down := []func(p api.Pat) api.Pat{
		func(p api.Pat) api.Pat { return p },
		func(p api.Pat) api.Pat { return pat(api.PPair, p, pat(api.PAny)) },
		func(p api.Pat) api.Pat { return pat(api.PCons, pname("z"), p) },
		func(p api.Pat) api.Pat { return pat(api.PPair, pat(api.PCons, pnum(1), p), pname("z'")) },
		func(p api.Pat) api.Pat {
			return pat(api.PCons, pat(api.PNil), pat(api.PCons, pat(api.PPair, p, pname("w")), pat(api.PAny)))
		},
	}
	for i, first := range down {
		for j, second := range down {
			for _, kind := range []int{api.PPair, api.PCons} {
				checkRightPat(t, pat(kind, first(x), second(x)), api.ErrArg)
				e := match(pats(pat(kind, first(x), second(x))), num(1), num(1))
				checkRight(t, e, api.ErrArg)
				if i != j {
					checkRightPat(t, pat(kind, first(x), second(y)), api.OK)
					checkRightPat(t, pat(kind, first(x), second(pstr("x"))), api.OK)
				}
			}
		}
	}
	checkRightPat(t, pat(api.PPair, pname("x"), pname("x'")), api.OK)
	// Each pattern has its names for itself.
	checkRight(t, match(pats(x, x, pat(api.PPair, x, y)), num(1), num(1), num(1), num(1)), api.OK)
	checkRight(t, match(pats(x), num(1), match(pats(x), num(1), num(1))), api.OK)
}

func TestPatternsChangedInOnePlace(t *testing.T) {
	for _, p := range rightPatterns() {
		onePatChange(p, func(x api.Pat) {
			want := api.ErrArg
			if wantPat(x) {
				want = api.OK
			}
			checkRightPat(t, x, want)
		})
	}
}

// P5.1: right expressions.

func TestRightExpressions(t *testing.T) {
	for _, e := range rightExprs() {
		checkRight(t, e, api.OK)
		e.At = api.Span{From: math.MaxInt, To: math.MinInt}
		checkRight(t, e, api.OK)
		for _, x := range above(e) {
			checkRight(t, x, api.OK)
		}
	}
}

// wrongExprs are expressions that are wrong by themselves.
func wrongExprs() []api.Expr {
	x, any := name("x"), pat(api.PAny)
	l := []api.Expr{
		truthOf(2), truthOf(-1), truthOf(math.MaxInt64), str(strings.Repeat("a", 201)),
		op(0, x, x), op(-1, x, x), op(8, x, x), op(math.MaxInt, x, x), op(256+api.OpAdd, x, x),
		asc(x, nothing), asc(x, api.Type{Kids: []api.Type{}}), match(nil, x), match(nil), match(nil, x, x), match(pats(any), x, x, x),
	}
	for _, s := range []string{"", "X", "_", "9", "a b", "a.b", "\x80", "let", "list", "true", "a" + strings.Repeat("b", 32)} {
		l = append(l, name(s), fun(s, nothing, x), let(s, tint, x, x), rec(s, "x", nothing, nothing, x, x), rec("f", s, nothing, nothing, x, x))
	}
	for _, kind := range []int{math.MinInt, -1, 0, 17, 18, 99, 256 + api.EUnit, 1<<32 + api.ENil, math.MaxInt} {
		l = append(l, ex(kind), ex(kind, x), ex(kind, x, x))
	}
	for _, a := range wrongAnnotations() {
		l = append(l, fun("x", a, x), let("x", a, x, x), rec("f", "x", a, nothing, x, x), rec("f", "x", nothing, a, x, x),
			rec("f", "x", a, tint, x, x), rec("f", "x", tint, a, x, x), asc(x, a))
	}
	for _, p := range append(wrongNodes(), pat(api.PPair, any, pat(api.PCons, any)), pat(api.PPair, pname("x"), pname("x"))) {
		l = append(l, match(pats(p), x, x), match(pats(any, p), x, x, x), match(pats(p, any), x, x, x))
	}
	return l
}

func TestExpressionsThatAreNotRight(t *testing.T) {
	for _, e := range wrongExprs() {
		checkRight(t, e, api.ErrArg)
		for i, x := range above(e) {
			checkRight(t, x, api.ErrArg)
			checkRight(t, above(x)[i*7%len(above(x))], api.ErrArg)
		}
	}
}

// fieldChanges put something right into each field.
func fieldChanges() map[string]func(*api.Expr) {
	return map[string]func(*api.Expr){
		"name":  func(e *api.Expr) { e.Name = "z" },
		"arg":   func(e *api.Expr) { e.Arg = "z" },
		"n t":   func(e *api.Expr) { e.N = 1 },
		"s":     func(e *api.Expr) { e.S = "z" },
		"op":    func(e *api.Expr) { e.Op = api.OpAdd },
		"A A?":  func(e *api.Expr) { e.A = tint },
		"B B? ": func(e *api.Expr) { e.B = tint },
	}
}

func TestAnExpressionWithAFieldTooMany(t *testing.T) {
	kinds := map[int]bool{}
	for _, e := range rightExprs() {
		kinds[e.Kind] = true
		fields, _, _ := strings.Cut(exprShapes()[e.Kind], ";")
		for field, change := range fieldChanges() {
			want := api.ErrArg
			for _, f := range strings.Fields(fields) {
				if slices.Contains(strings.Fields(field), f) {
					want = api.OK
				}
			}
			x := e
			change(&x)
			checkRight(t, x, want)
		}
		if e.Kind != api.EMatch {
			e.Pats = pats(pat(api.PAny))
			checkRight(t, e, api.ErrArg)
		}
	}
	if len(kinds) != 16 {
		t.Error("not every kind is tried")
	}
}

func TestAnExpressionWithAKidTooManyOrTooFew(t *testing.T) {
	kids := []api.Expr{name("x"), num(1), fun("x", tint, name("x")), ex(api.EUnit), name("y"), name("z")}
	for _, e := range rightExprs() {
		for n := range len(kids) + 1 {
			want := api.ErrArg
			if n == len(e.Kids) {
				want = api.OK
			}
			x := e
			x.Kids = kids[:n]
			checkRight(t, x, want)
		}
	}
	// The number of kids of an EMatch goes with that of its patterns.
	for n := range 4 {
		for k := range 6 {
			want := api.ErrArg
			if n > 0 && k == n+1 {
				want = api.OK
			}
			checkRight(t, match(slices.Repeat(pats(pat(api.PAny)), n), kids[:k]...), want)
		}
	}
}

func TestAnnotationsThatAreNone(t *testing.T) {
	x, empty := name("x"), api.Type{Kids: []api.Type{}}
	for _, a := range []api.Type{nothing, empty} {
		checkRight(t, fun("x", a, x), api.OK)
		checkRight(t, let("x", a, x, x), api.OK)
		checkRight(t, rec("f", "x", a, a, x, x), api.OK)
		checkRight(t, asc(x, a), api.ErrArg)
		for _, e := range []api.Expr{fun("x", a, x), let("x", a, x, x), rec("f", "x", a, a, x, x)} {
			if l := Anns(e); len(l) != 0 {
				t.Error(l)
			}
		}
		if got := Depth(rec("f", "x", a, a, x, x)); got != 2 {
			t.Error("depth", got)
		}
	}
	checkSame(t, fun("x", nothing, x), fun("x", empty, x), true)
	checkSame(t, fun("x", nothing, x), fun("x", api.Type{N: 1}, x), false)
}

func TestAllFunctionsOnExpressionsRightAndNot(t *testing.T) {
	right := 0
	for _, e := range someExprs() {
		if wantRight(e) {
			right++
		}
		checkExpr(t, spans(e))
	}
	if right < 1000 {
		t.Error(right)
	}
	for _, e := range wrongExprs() {
		checkExpr(t, e)
	}
}

// P5.2: the functions on expressions in general.

func TestExampleOfTheDocument(t *testing.T) {
	e := fun("x", tdyn, name("x"))
	l := Anns(e)
	if Check(e) != api.OK || Size(e) != 2 || Depth(e) != 2 || len(l) != 1 || !typ.Same(l[0], tdyn) || len(Free(e)) != 0 {
		t.Error(Check(e), Size(e), Depth(e), l, Free(e))
	}
}

func TestSizeAndDepth(t *testing.T) {
	x, any := name("x"), pat(api.PAny)
	down := pat(api.PPair, any, pat(api.PCons, pat(api.PPair, any, pname("y")), any)) // depth 4
	for i, c := range []struct {
		e           api.Expr
		size, depth int
	}{
		{x, 1, 1}, {api.Expr{}, 1, 1}, {ex(-5, x, ex(77, x)), 4, 3}, {ex(api.EUnit, api.Expr{}), 2, 2},
		{ex(api.EIf, x, ex(api.EPair, x, ex(api.EApp, x, x)), x), 8, 4},
		// Patterns and annotations count for the depth alone.
		{match(pats(any), x, x), 3, 2}, {match(pats(any, down), x, x, x), 4, 5}, {match(pats(down, any), x, x, x), 4, 5},
		{match(pats(any, down), ex(api.EApp, ex(api.EApp, ex(api.EApp, ex(api.EApp, x, x), x), x), x), x, x), 12, 6},
		{fun("x", nothing, x), 2, 2}, {fun("x", tint, x), 2, 2}, {fun("x", lists(1), x), 2, 3}, {fun("x", lists(6), x), 2, 8},
		{fun("x", lists(2), fun("x", lists(2), fun("x", lists(2), x))), 4, 6}, {fun("x", lists(5), fun("x", lists(2), x)), 3, 7},
		{rec("f", "x", lists(3), lists(5), x, x), 3, 7}, {rec("f", "x", lists(5), lists(3), x, x), 3, 7},
		{rec("f", "x", nothing, lists(3), x, x), 3, 5}, {rec("f", "x", lists(3), nothing, x, x), 3, 5},
		// So they do where the expression is not right.
		{api.Expr{Kind: api.EInt, A: lists(2)}, 1, 4}, {api.Expr{B: lists(2)}, 1, 4}, {api.Expr{Kind: -1, Pats: pats(down)}, 1, 5},
		{api.Expr{A: api.Type{N: 1}}, 1, 2}, {api.Expr{B: node(0, nothing)}, 1, 3}, {api.Expr{A: tvar}, 1, 2},
		{api.Expr{Pats: pats(api.Pat{Kids: pats(api.Pat{})})}, 1, 3}, {ex(0, api.Expr{A: lists(1), Pats: pats(down)}), 2, 6},
		{api.Expr{Kind: api.EMatch}, 1, 1},
	} {
		if Size(c.e) != c.size || Depth(c.e) != c.depth {
			t.Error(i, Size(c.e), Depth(c.e))
		}
	}
}

func TestSame(t *testing.T) {
	for _, e := range someExprs() {
		checkSame(t, e, spans(e), true)
		checkSame(t, spans(e), Bare(e), true)
	}
	for _, e := range rightExprs() {
		oneChange(e, func(x api.Expr) { checkSame(t, e, x, false) })
	}
}

func TestSameOfEachTwo(t *testing.T) {
	all := someExprs()
	var l []api.Expr
	var texts []string
	for i := 0; i < len(all); i += 43 {
		l = append(l, spans(all[i]))
		texts = append(texts, bareText(text(all[i])))
	}
	for i := range l {
		for j := range i + 1 {
			checkSame(t, l[i], l[j], texts[i] == texts[j])
		}
	}
}

func TestSameLooksAtTheShape(t *testing.T) {
	x, any := name("x"), pat(api.PAny)
	for i, c := range [][2]api.Expr{
		{ex(1, ex(1, x), x), ex(1, ex(1, x, x))},
		{ex(1, ex(1), ex(1)), ex(1, ex(1, ex(1)))},
		{ex(api.EPair, x, num(1)), ex(api.EPair, num(1), x)},
		{match(pats(any, pat(api.PNil)), x), match(pats(pat(api.PNil), any), x)},
		{match(pats(pat(5, pat(5)), any), x), match(pats(pat(5, pat(5), any)), x)},
		{match(pats(pat(5, pat(5, any))), x), match(pats(pat(5, pat(5), any)), x)},
		{match(pats(any), x), match(nil, x)}, {fun("x", tint, x), fun("x", tdyn, x)},
		{fun("x", lists(3), x), fun("x", lists(4), x)}, {rec("f", "x", tint, nothing, x, x), rec("f", "x", nothing, tint, x, x)},
		{rec("f", "x", tint, tdyn, x, x), rec("f", "x", tdyn, tint, x, x)}, {rec("f", "x", nothing, nothing, x, x), rec("x", "f", nothing, nothing, x, x)},
		{name("a"), api.Expr{Kind: api.EName, Arg: "a"}}, {name("a"), api.Expr{Kind: api.EName, S: "a"}},
		{num(1), api.Expr{Kind: api.EInt, Op: 1}},
	} {
		if Same(c[0], c[1]) || Same(c[1], c[0]) {
			t.Error(i)
		}
	}
	checkSame(t, api.Expr{}, api.Expr{}, true)
	checkSame(t, ex(77, ex(-3)), ex(77, ex(-3)), true)
}

func TestNilAndEmptyLists(t *testing.T) {
	l := someExprs()
	for i := 0; i < len(l); i += 5 {
		e, x := l[i], l[i]
		if len(x.Kids) == 0 {
			x.Kids = []api.Expr{}
		}
		if len(x.Pats) == 0 {
			x.Pats = []api.Pat{}
		}
		checkSame(t, e, x, true)
		if resultsOf(e) != resultsOf(x) {
			t.Errorf("%.300s: another result with empty lists", text(e))
		}
	}
	checkRightPat(t, api.Pat{Kind: api.PAny, Kids: []api.Pat{}}, api.OK)
}

func TestBare(t *testing.T) {
	at := api.Span{From: 3, To: 9}
	e := api.Expr{Kind: api.EMatch, At: at, Pats: pats(api.Pat{Kind: api.PPair, At: at, Kids: pats(api.Pat{Kind: api.PName, At: at, Name: "x"}, api.Pat{At: at})}),
		Kids: []api.Expr{{Kind: api.EName, At: at, Name: "y"}, {Kind: 99, At: at, N: 7, A: tint, Kids: []api.Expr{{At: at}}}}}
	before := text(e)
	x := Bare(e)
	if text(x) != bareText(before) || strings.Contains(text(x), "@3,9;") || strings.Count(text(x), "@0,0;") != 7 {
		t.Error(text(x))
	}
	if text(e) != before || !Same(e, x) || text(Bare(x)) != text(x) {
		t.Error("more than At is changed, or what was handed in")
	}
}

// P5.3: the functions on right expressions.

func TestValueForms(t *testing.T) {
	x, app := name("x"), ex(api.EApp, name("f"), num(1))
	for _, v := range []api.Expr{
		x, num(1), truthOf(0), truthOf(1), str("a"), ex(api.EUnit), ex(api.ENil), fun("x", nothing, app), fun("x", tint, let("x", nothing, app, app)),
	} {
		for _, e := range []api.Expr{v, ex(api.EPair, v, x), ex(api.EPair, x, v), ex(api.ECons, v, ex(api.ENil)), ex(api.ECons, x, ex(api.EPair, ex(api.ECons, x, v), v))} {
			if !Value(e) {
				t.Error(text(e))
			}
		}
	}
	for _, v := range []api.Expr{
		app, let("x", nothing, x, x), rec("f", "x", nothing, nothing, x, x), ex(api.EIf, x, x, x), match(pats(pname("x")), x, x), asc(x, tdyn), op(1, num(1), num(1)),
		// These are not right.
		{}, name("let"), truthOf(2), fun("X", nothing, x), fun("x", tvar, x), fun("x", nothing, name("")), ex(api.EPair, x), ex(api.EPair, x, x, x), ex(api.EUnit, x), ex(17),
	} {
		for _, e := range []api.Expr{v, ex(api.EPair, v, x), ex(api.EPair, x, v), ex(api.ECons, v, ex(api.ENil)), ex(api.ECons, x, ex(api.EPair, ex(api.ECons, x, v), x))} {
			if Value(e) {
				t.Error(text(e))
			}
		}
	}
}

// inTurn returns pairs of all names, which are free in it.
func inTurn(l ...string) api.Expr {
	e := ex(api.EUnit)
	for _, s := range slices.Backward(l) {
		e = ex(api.EPair, name(s), e)
	}
	return e
}

func TestWhatEachBinderBinds(t *testing.T) {
	e, any := inTurn("g", "f", "x", "f", "y"), pat(api.PAny)
	zero := num(0)
	for i, c := range []struct {
		e    api.Expr
		want string
	}{
		{e, "f g x y"}, {fun("x", nothing, e), "f g y"}, {fun("z", nothing, e), "f g x y"},
		{let("x", nothing, e, zero), "f g x y"}, {let("x", nothing, zero, e), "f g y"}, {let("x", nothing, name("x"), e), "f g x y"},
		{rec("f", "x", nothing, nothing, e, zero), "g y"}, {rec("f", "x", nothing, nothing, zero, e), "g x y"},
		{rec("f", "f", nothing, nothing, e, zero), "g x y"}, {rec("f", "f", nothing, nothing, zero, e), "g x y"},
		{rec("f", "f", nothing, nothing, zero, inTurn("f")), ""}, {ex(api.EPair, rec("f", "f", nothing, nothing, name("f"), zero), name("f")), "f"},
		{match(pats(pname("x"), pname("y")), e, zero, zero), "f g x y"}, {match(pats(pname("x"), pname("y")), zero, e, zero), "f g y"},
		{match(pats(pname("x"), pname("y")), zero, zero, e), "f g x"}, {match(pats(pname("x"), pname("y")), zero, name("x"), name("x")), "x"},
		{match(pats(pat(api.PCons, pat(api.PPair, pname("x"), any), pat(api.PPair, pname("y"), pname("f")))), zero, e), "g"},
		{match(pats(pat(api.PPair, pname("x"), pstr("y"))), zero, e), "f g y"},
		{match(pats(any, pat(api.PPair, any, pname("x"))), name("b"), name("x"), name("x")), "b x"},
		// What is bound inside is free outside, ahead of it and behind it.
		{ex(api.EPair, name("x"), fun("x", nothing, zero)), "x"}, {ex(api.EPair, fun("x", nothing, name("x")), name("x")), "x"},
		{fun("x", nothing, ex(api.EPair, fun("x", nothing, name("x")), name("x"))), ""},
		{let("x", nothing, let("x", nothing, zero, name("x")), name("x")), ""}, {let("x", nothing, let("x", nothing, name("x"), zero), zero), "x"},
		{ex(api.EApp, rec("f", "x", nothing, nothing, fun("f", nothing, name("f")), name("f")), name("x")), "x"},
		{ex(api.EApp, match(pats(pat(api.PPair, pname("x"), pname("y"))), zero, zero), e), "f g x y"},
		// These bind nothing.
		{ex(api.EIf, name("x"), name("f"), name("y")), "f x y"}, {asc(op(3, name("y"), ex(api.EApp, name("x"), name("y"))), tint), "x y"},
		{ex(api.ECons, name("x"), str("y")), "x"}, {zero, ""},
	} {
		if got := strings.Join(Free(c.e), " "); got != c.want {
			t.Errorf("%d: %s, want %s", i, got, c.want)
		}
		checkExpr(t, c.e)
	}
}

func TestFreeNamesRise(t *testing.T) {
	l := []string{"b", "a'", "aB", "ab", "a", "a_", "a0", "aa", "z", "b'", "b", "aB", "a"}
	want := []string{"a", "a'", "a0", "aB", "a_", "aa", "ab", "b", "b'", "z"}
	if got := Free(inTurn(l...)); !slices.Equal(got, want) {
		t.Error(got)
	}
}

func TestFreeNamesUnderManyBinders(t *testing.T) {
	const many = 3000
	e := name("free")
	var want []string
	for i := range many {
		s := fmt.Sprintf("x%04d", i)
		e = ex(api.EApp, fun(s, nothing, ex(api.EApp, name(s), e)), name(fmt.Sprintf("x%04d", i-i%2)))
		if i%2 == 0 {
			want = append(want, s)
		}
	}
	if got := Free(e); !slices.Equal(got, append([]string{"free"}, want...)) {
		t.Error(len(got))
	}
}

// annotated has six annotations, lists(1) to lists(6) in the order of the tree.
func annotated() api.Expr {
	x := name("x")
	return rec("f", "x", lists(1), lists(2),
		ex(api.EApp, fun("x", lists(3), x), fun("y", nothing, x)),
		match(pats(pat(api.PAny), pname("z")),
			let("y", nothing, x, x),
			asc(let("x", lists(5), num(1), x), lists(4)),
			rec("g", "x", nothing, lists(6), x, x)))
}

func TestAnnotationsInTheOrderOfTheTree(t *testing.T) {
	e := annotated()
	got := Anns(e)
	if len(got) != 6 {
		t.Fatal(len(got))
	}
	for i := range got {
		if !typ.Same(got[i], lists(i+1)) {
			t.Error(i, typeText(got[i]))
		}
	}
	if l := Anns(ex(api.EPair, name("x"), fun("x", nothing, num(1)))); len(l) != 0 {
		t.Error(l)
	}
}

func TestExpressionsThatAreNotRightHaveNothing(t *testing.T) {
	for _, e := range wrongExprs() {
		for _, x := range []api.Expr{e, ex(api.EPair, fun("y", tint, name("x")), e), ex(api.ECons, e, asc(name("x"), tint))} {
			if Value(x) || Free(x) != nil || Anns(x) != nil {
				t.Errorf("%.300s: %v %v %v", text(x), Value(x), Free(x), Anns(x))
			}
			for _, l := range [][]api.Type{nil, {tint}, {tint, tint}, {tvar}} {
				checkWith(t, x, l, api.ErrArg)
			}
		}
	}
}

// checkWith holds With against the texts of e and of the types.
func checkWith(t *testing.T, e api.Expr, l []api.Type, want api.Errno) {
	t.Helper()
	got, err := With(e, l)
	if err != want {
		t.Errorf("With of %.300s and %.300s is %v, want %v", text(e), fmt.Sprint(annTexts(l)), int(err), int(want))
	}
	s := text(api.Expr{})
	if want == api.OK {
		s = wantWith(text(e), l)
	}
	if text(got) != s {
		t.Errorf("With of %.300s and %.300s is %.300s, want %.300s", text(e), fmt.Sprint(annTexts(l)), text(got), s)
	}
}

func TestWithReplacesTheAnnotations(t *testing.T) {
	e := spans(annotated())
	l := []api.Type{tint, node(api.TPair, tint, tdyn), lists(9), tdyn, node(api.TFun, tdyn, tdyn), leaf(api.TUnit)}
	checkWith(t, e, l, api.OK)
	checkWith(t, e, Anns(e), api.OK)
	x, _ := With(e, l)
	if !typ.Same(x.A, l[0]) || !typ.Same(x.B, l[1]) || !typ.Same(x.Kids[0].Kids[0].A, l[2]) || !typ.Same(x.Kids[1].Kids[1].A, l[3]) ||
		!typ.Same(x.Kids[1].Kids[1].Kids[0].A, l[4]) || !typ.Same(x.Kids[1].Kids[2].B, l[5]) || annText(x.Kids[1].Kids[2].A) != "{!}" {
		t.Error(text(x))
	}
}

func TestErrorsOfWith(t *testing.T) {
	e := annotated()
	right := []api.Type{tint, tint, tdyn, lists(1), tint, tint, tdyn, tint}
	for n := range len(right) + 1 {
		want := api.ErrSize
		if n == 6 {
			want = api.OK
		}
		checkWith(t, e, right[:n], want)
		for i := range n {
			for _, a := range append(wrongAnnotations(), nothing) {
				l := slices.Clone(right[:n])
				l[i] = a
				checkWith(t, e, l, api.ErrArg)
			}
		}
	}
	checkWith(t, name("x"), nil, api.OK)
	checkWith(t, name("x"), []api.Type{}, api.OK)
	checkWith(t, name("x"), []api.Type{tint}, api.ErrSize)
	checkWith(t, name("x"), []api.Type{nothing}, api.ErrArg)
	checkWith(t, name("let"), []api.Type{tint, tint}, api.ErrArg)
	checkWith(t, fun("x", tint, name("x")), nil, api.ErrSize)
	// What is none stays none.
	checkWith(t, fun("x", nothing, name("x")), []api.Type{tint}, api.ErrSize)
	checkWith(t, fun("x", nothing, name("x")), nil, api.OK)
}

// P5.4: Anns of With.

func TestAnnsOfWith(t *testing.T) {
	others := rightAnnotations()
	all := someExprs()
	for i := 0; i < len(all); i += 2 {
		e := spans(all[i])
		l := Anns(e)
		before := text(e)
		with := make([]api.Type, len(l))
		for k := range l {
			with[k] = others[(i+k)%len(others)]
		}
		want := api.ErrArg
		if wantRight(e) {
			want = api.OK
		}
		checkWith(t, e, with, want)
		x, _ := With(e, with)
		if want == api.OK && !slices.EqualFunc(Anns(x), with, typ.Same) {
			t.Errorf("%.300s: other annotations", text(x))
		}
		back, _ := With(x, l)
		if want == api.OK && (Check(x) != api.OK || text(back) != before || text(e) != before) {
			t.Errorf("%.300s: more is changed", before)
		}
	}
}

// The rules: every call ends, arguments stay as they are.

func TestExpressionsThatAreDeep(t *testing.T) {
	// A function that calls itself for each kid would need more than this.
	defer debug.SetMaxStack(debug.SetMaxStack(2 << 20))
	const depth = 1 << 15
	x, any := name("x"), pats(pat(api.PAny))
	for i, c := range []struct {
		down       func(api.Expr) api.Expr
		size       int
		value      bool
		free, anns int
	}{
		{func(e api.Expr) api.Expr { return ex(api.EPair, e, x) }, 2, true, 2, 0},
		{func(e api.Expr) api.Expr { return ex(api.ECons, x, e) }, 2, true, 2, 0},
		{func(e api.Expr) api.Expr { return fun("x", tint, e) }, 1, true, 1, depth},
		{func(e api.Expr) api.Expr { return let("bottom", nothing, x, e) }, 2, false, 1, 0},
		{func(e api.Expr) api.Expr { return rec("bottom", "x", tdyn, tint, e, x) }, 2, false, 1, 2 * depth},
		{func(e api.Expr) api.Expr { return match(any, x, e) }, 2, false, 2, 0},
		{func(e api.Expr) api.Expr { return asc(e, tdyn) }, 1, false, 1, depth},
	} {
		build := func(bottom api.Expr) api.Expr {
			for range depth {
				bottom = c.down(bottom)
			}
			return bottom
		}
		e, y := build(name("bottom")), build(name("bottom"))
		e.At = api.Span{From: 1, To: 2}
		if Check(e) != api.OK || Size(e) != 1+depth*c.size || Depth(e) != 1+depth || Value(e) != c.value || len(Free(e)) != c.free || len(Anns(e)) != c.anns {
			t.Error(i, Check(e), Size(e), Depth(e), Value(e), Free(e), len(Anns(e)))
		}
		if !Same(e, y) || !Same(Bare(e), y) || Same(e, build(name("x"))) || Same(e, c.down(y)) || Check(build(name(""))) != api.ErrArg || Value(build(ex(api.EApp, x, x))) != (i == 2) {
			t.Error(i, "the bottom is not looked at")
		}
		l := slices.Repeat([]api.Type{lists(2)}, c.anns)
		if z, err := With(e, l); err != api.OK || Same(z, e) != (c.anns == 0) || len(Anns(z)) != c.anns {
			t.Error(i, err)
		}
	}
}

func TestPatternsAndAnnotationsThatAreDeep(t *testing.T) {
	defer debug.SetMaxStack(debug.SetMaxStack(2 << 20))
	const depth = 1 << 15
	build := func(bottom api.Pat, kind int) api.Pat {
		bottom.At.From = 5
		for i := range depth {
			kids := pats(pat(api.PAny), bottom)
			if i%2 == 0 {
				slices.Reverse(kids)
			}
			bottom = pat(kind, kids...)
		}
		return bottom
	}
	for _, kind := range []int{api.PPair, api.PCons} {
		p, q := build(pname("x"), kind), build(pname("y"), kind)
		if CheckPat(p) != api.OK || CheckPat(build(pname("X"), kind)) != api.ErrArg || CheckPat(pat(kind, p, q)) != api.OK || CheckPat(pat(kind, p, p)) != api.ErrArg {
			t.Error("CheckPat")
		}
		e := match(pats(p), name("y"), ex(api.EPair, name("x"), name("y")))
		if Check(e) != api.OK || Depth(e) != depth+2 || len(Free(e)) != 1 || !Same(e, Bare(e)) || Same(e, match(pats(q), e.Kids...)) {
			t.Error("the whole")
		}
	}
	e := fun("x", lists(depth), name("x"))
	if Check(e) != api.OK || Depth(e) != depth+2 || !Same(e, fun("x", lists(depth), name("x"))) || Same(e, fun("x", lists(depth-1), name("x"))) {
		t.Error("the annotation")
	}
	if _, err := With(e, []api.Type{lists(depth + 1)}); err != api.OK {
		t.Error(err)
	}
}

func TestExpressionsThatAreWide(t *testing.T) {
	const width = 1 << 14
	var l []api.Pat
	kids := []api.Expr{name("x")}
	for i := range width {
		l = append(l, pname(fmt.Sprint("x", i)))
		kids = append(kids, ex(api.EPair, name(fmt.Sprint("x", i)), name("y")))
	}
	e := match(l, kids...)
	if Check(e) != api.OK || Size(e) != 2+3*width || Depth(e) != 3 || fmt.Sprint(Free(e)) != "[x y]" || !Same(e, Bare(e)) {
		t.Error(Check(e), Size(e), Depth(e), Free(e))
	}
	var p api.Pat = pat(api.PNil)
	for i := range width {
		p = pat(api.PCons, pname(fmt.Sprint("x", i)), p)
	}
	if CheckPat(p) != api.OK || CheckPat(pat(api.PCons, pname("x0"), p)) != api.ErrArg {
		t.Error("many names")
	}
}

func TestSharedPartsCountEachTime(t *testing.T) {
	e := fun("x", tint, name("x"))
	for range 14 {
		e = ex(api.EPair, e, e)
	}
	if Check(e) != api.OK || Size(e) != 1<<14-1+2<<14 || Depth(e) != 16 || !Value(e) || len(Free(e)) != 0 || len(Anns(e)) != 1<<14 {
		t.Error(Check(e), Size(e), Depth(e), Value(e), Free(e), len(Anns(e)))
	}
	// One part that occurs twice gets two different annotations.
	f := fun("x", tint, name("x"))
	checkWith(t, ex(api.EPair, f, f), []api.Type{tdyn, lists(1)}, api.OK)
	kids := []api.Expr{f, f}
	checkWith(t, ex(api.EApp, ex(api.EPair, kids...), ex(api.EPair, kids...)), []api.Type{tdyn, lists(1), lists(2), lists(3)}, api.OK)
}

// spare returns a list in a longer one: whole shows what lies behind it.
func spare[T any](l []T, behind ...T) []T {
	return append(slices.Clone(l), behind...)[:len(l)]
}

func sparePat(p api.Pat) api.Pat {
	p.Kids = spare(p.Kids, pname("behind"), api.Pat{})
	for i := range p.Kids {
		p.Kids[i] = sparePat(p.Kids[i])
	}
	return p
}

func spareType(a api.Type) api.Type {
	a.Kids = spare(a.Kids, tvar, tint)
	for i := range a.Kids {
		a.Kids[i] = spareType(a.Kids[i])
	}
	return a
}

func spareExpr(e api.Expr) api.Expr {
	e.A, e.B = spareType(e.A), spareType(e.B)
	e.Kids, e.Pats = spare(e.Kids, name("behind"), api.Expr{}), spare(e.Pats, pat(api.PAny), pat(77))
	for i := range e.Kids {
		e.Kids[i] = spareExpr(e.Kids[i])
	}
	for i := range e.Pats {
		e.Pats[i] = sparePat(e.Pats[i])
	}
	return e
}

func wholeType(a api.Type) string {
	s := fmt.Sprint("(", a.Kind, a.N, len(a.Kids), cap(a.Kids))
	for _, kid := range a.Kids[:cap(a.Kids)] {
		s += wholeType(kid)
	}
	return s + ")"
}

func wholePat(p api.Pat) string {
	q := p
	q.Kids = nil
	s := fmt.Sprint(patText(q), len(p.Kids), cap(p.Kids))
	for _, kid := range p.Kids[:cap(p.Kids)] {
		s += wholePat(kid)
	}
	return s + "]"
}

// whole is the text of an expression with what lies behind its lists.
func whole(e api.Expr) string {
	x := e
	x.Kids, x.Pats, x.A, x.B = nil, nil, nothing, nothing
	s := fmt.Sprint(text(x), wholeType(e.A), wholeType(e.B), len(e.Kids), cap(e.Kids), len(e.Pats), cap(e.Pats))
	for _, kid := range e.Kids[:cap(e.Kids)] {
		s += whole(kid)
	}
	for _, p := range e.Pats[:cap(e.Pats)] {
		s += wholePat(p)
	}
	return s + ">"
}

func TestArgumentsAreNotChanged(t *testing.T) {
	l := append(someExprs(), wrongExprs()...)
	for i := 0; i < len(l); i += 11 {
		e := spareExpr(spans(l[i]))
		types := spare(Anns(e), tvar, nothing)
		for k := range types {
			types[k] = spareType(lists(k % 4))
		}
		before, typesBefore := whole(e), fmt.Sprint(types[:cap(types)])
		first := resultsOf(e)
		x, err := With(e, types)
		if err == api.OK && text(x) != wantWith(text(e), types) || !Same(e, e) || resultsOf(e) != first || first != wantResults(l[i]) && first != wantResults(spans(l[i])) {
			t.Errorf("%.300s: another result", text(e))
		}
		for _, p := range e.Pats {
			CheckPat(p)
		}
		if whole(e) != before || fmt.Sprint(types[:cap(types)]) != typesBefore {
			t.Errorf("%.300s is changed", text(e))
		}
	}
}

// byteReader hands out bytes, and zeros behind the last one.
type byteReader struct{ rest []byte }

func (r *byteReader) next() int {
	if len(r.rest) == 0 {
		return 0
	}
	b := r.rest[0]
	r.rest = r.rest[1:]
	return int(b)
}

func (r *byteReader) name() string {
	l := []string{"x", "y", "f", "x'", "let", "", "X"}
	if n := r.next(); n < 250 {
		return l[n%4]
	}
	return l[4+r.next()%3]
}

func (r *byteReader) ann() api.Type {
	l := append(rightAnnotations(), nothing, nothing, nothing, nothing)
	if n := r.next(); n < 250 {
		return l[n%len(l)]
	}
	return wrongAnnotations()[r.next()%len(wrongAnnotations())]
}

func (r *byteReader) pat(depth int) api.Pat {
	kinds := []int{api.PAny, api.PName, api.PInt, api.PBool, api.PStr, api.PUnit, api.PNil, api.PPair, api.PCons}
	p := pat(kinds[r.next()%len(kinds)])
	p.At.From = r.next()
	shape := patShapes()[p.Kind]
	switch {
	case strings.HasPrefix(shape, "name"):
		p.Name = r.name()
	case strings.HasPrefix(shape, "n"), strings.HasPrefix(shape, "t"):
		p.N = int64(r.next() % 3)
	case strings.HasPrefix(shape, "s"):
		p.S = strings.Repeat("a", r.next())
	case strings.HasSuffix(shape, "2") && depth > 0:
		p.Kids = pats(r.pat(depth-1), r.pat(depth-1))
	}
	return p
}

// expr builds an expression that is right more often than not.
func (r *byteReader) expr(depth int) api.Expr {
	if depth == 0 {
		return name(r.name())
	}
	e := ex(1 + r.next()%16)
	e.At = api.Span{From: r.next(), To: r.next()}
	shape := exprShapes()[e.Kind]
	fields, kids, _ := strings.Cut(shape, "; ")
	for _, field := range strings.Fields(fields) {
		switch field {
		case "name":
			e.Name = r.name()
		case "arg":
			e.Arg = r.name()
		case "n", "t":
			e.N = int64(r.next() % 3)
		case "s":
			e.S = strings.Repeat("a", r.next())
		case "op":
			e.Op = r.next() % 9
		case "A", "A?":
			e.A = r.ann()
		case "B?":
			e.B = r.ann()
		case "pats":
			for range r.next() % 4 {
				e.Pats = append(e.Pats, r.pat(3))
			}
			kids = fmt.Sprint(len(e.Pats) + 1)
		}
	}
	for range int(kids[0]-'0') + max(0, r.next()-254) {
		e.Kids = append(e.Kids, r.expr(depth-1))
	}
	return e
}

func FuzzTree(f *testing.F) {
	f.Add([]byte{8, 1, 2, 0, 4, 0}, []byte{8, 1, 2, 0, 4, 0})
	f.Add([]byte{13, 1, 1, 2, 7, 0, 1, 0, 200, 1, 0, 30, 3, 3}, []byte{11, 0, 0, 0, 60, 3, 4, 0, 9, 9})
	f.Add([]byte{11, 5, 5, 60, 0, 7, 2, 0, 10, 4, 4, 0, 1, 0}, []byte{14, 1, 1, 3})
	f.Fuzz(func(t *testing.T, a, b []byte) {
		first, second := byteReader{a}, byteReader{b}
		x, y := first.expr(5), second.expr(5)
		checkExpr(t, x)
		checkExpr(t, y)
		checkSame(t, x, y, bareText(text(x)) == bareText(text(y)))
		checkSame(t, x, spans(x), true)
		for _, p := range x.Pats {
			if (CheckPat(p) == api.OK) != wantPat(p) {
				t.Error(patText(p))
			}
		}
		l := slices.Repeat([]api.Type{lists(3)}, len(Anns(x)))
		if wantRight(x) {
			checkWith(t, x, l, api.OK)
			checkWith(t, x, append(l, tint), api.ErrSize)
			return
		}
		checkWith(t, x, l, api.ErrArg)
	})
}
