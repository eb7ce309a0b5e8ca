package parse

import (
	"bytes"
	"fmt"
	"math/rand"
	"runtime/debug"
	"slices"
	"strings"
	"testing"

	"surety/api"
	"surety/lex"
	"surety/note"
	"surety/tree"
)

// show tells an expression with each field that is not zero: the word of its
// kind, :Name, /Arg, #N, "S", the sign of its Op, {A}, {{B}}, its place, the
// patterns in [ ] and the kids in ( ).
func show(e api.Expr) string {
	s := kindWord(e.Kind, " name num bool str unit pair nil cons fun app let rec if match asc op") + showFields(e.Name, e.Arg, e.N, e.S)
	if e.Op != 0 {
		s += " " + kindWord(e.Op, " + - * / < = ==")
	}
	if e.A.Kind != 0 {
		s += "{" + showType(e.A) + "}"
	}
	if e.B.Kind != 0 {
		s += "{{" + showType(e.B) + "}}"
	}
	s += showSpan(e.At) + showList("[]", e.Pats, showPat) + showList("()", e.Kids, show)
	return s
}

func showPat(p api.Pat) string {
	return kindWord(p.Kind, " any name num bool str unit pair nil cons") + showFields(p.Name, "", p.N, p.S) + showSpan(p.At) + showList("()", p.Kids, showPat)
}

func kindWord(kind int, words string) string {
	if l := strings.Split(words, " "); 0 < kind && kind < len(l) {
		return l[kind]
	}
	return fmt.Sprint("kind", kind)
}

func showFields(name, arg string, n int64, str string) string {
	s := ""
	if name != "" {
		s += ":" + name
	}
	if arg != "" {
		s += "/" + arg
	}
	if n != 0 {
		s += fmt.Sprint("#", n)
	}
	if str != "" {
		s += fmt.Sprintf("%q", str)
	}
	return s
}

func showSpan(at api.Span) string { return fmt.Sprintf("@%d-%d", at.From, at.To) }

func showType(t api.Type) string {
	s, err := note.Text(t)
	if err != api.OK {
		return fmt.Sprintf("%#v", t)
	}
	return s
}

func showList[T any](around string, l []T, show func(T) string) string {
	if len(l) == 0 {
		return ""
	}
	var texts []string
	for _, x := range l {
		texts = append(texts, show(x))
	}
	return around[:1] + strings.Join(texts, " ") + around[1:]
}

func checkParsed(t *testing.T, source, want string) {
	t.Helper()
	e, at, err := Parse([]byte(source))
	if got := show(e); got != want || at != 0 || err != api.OK {
		t.Errorf("%.300q: %.600s %d %v, want %.600s", source, got, at, err, want)
	}
	if tree.Check(e) != api.OK {
		t.Errorf("%.300q: the expression is not right", source)
	}
}

func checkRefused(t *testing.T, source string, wantAt int) {
	t.Helper()
	if e, at, err := Parse([]byte(source)); !zero(e) || at != wantAt || err != api.ErrText {
		t.Errorf("%.300q: %.300s %d %v, want %d", source, show(e), at, err, wantAt)
	}
}

// zero reports whether e is the zero value.
func zero(e api.Expr) bool { return show(e) == "kind0@0-0" }

// check holds Parse against the oracle.
func check(t *testing.T, o *oracle, source string) {
	t.Helper()
	want, at, err := o.want(source)
	if err != api.OK {
		checkRefused(t, source, at)
		return
	}
	checkParsed(t, source, show(want))
}

// P6.1: programs.

func TestForms(t *testing.T) {
	for _, c := range [][2]string{
		// The atoms.
		{"x", "name:x@0-1"},
		{"x'", "name:x'@0-2"},
		{"0", "num@0-1"},
		{"42", "num#42@0-2"},
		{"~9223372036854775808", "num#-9223372036854775808@0-20"},
		{`""`, "str@0-2"},
		{`"a\22"`, `str"a\""@0-6`},
		{"true", "bool#1@0-4"},
		{"false", "bool@0-5"},
		{"()", "unit@0-2"},
		{"( )", "unit@0-3"},
		{"[]", "nil@0-2"},
		{"[\n]", "nil@0-3"},
		{"(x)", "name:x@1-2"},
		{"(x, 1)", "pair@0-6(name:x@1-2 num#1@4-5)"},
		{"((x, y), z)", "pair@0-11(pair@1-7(name:x@2-3 name:y@5-6) name:z@9-10)"},
		{"(x, (y, z))", "pair@0-11(name:x@1-2 pair@4-10(name:y@5-6 name:z@8-9))"},
		{"(x : int)", "asc{int}@0-9(name:x@1-2)"},
		{"((x : ?) : bool)", "asc{bool}@0-16(asc{?}@1-8(name:x@2-3))"},
		// Between parentheses there may be any expression.
		{"(let x = 1 in x, fun y -> y)", "pair@0-28(let:x@1-15(num#1@9-10 name:x@14-15) fun:y@17-27(name:y@26-27))"},
		{"(if x then 1 else 2 : int)", "asc{int}@0-26(if@1-19(name:x@4-5 num#1@11-12 num#2@18-19))"},
		{"(a < b) :: (c == d)", "cons@1-18(op <@1-6(name:a@1-2 name:b@5-6) op ==@12-18(name:c@12-13 name:d@17-18))"},
		// The chains.
		{"f x", "app@0-3(name:f@0-1 name:x@2-3)"},
		{`f x 1 "s" true () []`, `app@0-20(app@0-17(app@0-14(app@0-9(app@0-5(app@0-3(name:f@0-1 name:x@2-3) num#1@4-5) str"s"@6-9) bool#1@10-14) unit@15-17) nil@18-20)`},
		{"f(x)(y,z)(w:?)", "app@0-14(app@0-9(app@0-3(name:f@0-1 name:x@2-3) pair@4-9(name:y@5-6 name:z@7-8)) asc{?}@9-14(name:w@10-11))"},
		{"1 ~2", "app@0-4(num#1@0-1 num#-2@2-4)"},
		{"a + b", "op +@0-5(name:a@0-1 name:b@4-5)"},
		{"a - 1", "op -@0-5(name:a@0-1 num#1@4-5)"},
		{"a-1", "op -@0-3(name:a@0-1 num#1@2-3)"},
		{"a * b", "op *@0-5(name:a@0-1 name:b@4-5)"},
		{"a / b", "op /@0-5(name:a@0-1 name:b@4-5)"},
		{"a < b", "op <@0-5(name:a@0-1 name:b@4-5)"},
		{"a = b", "op =@0-5(name:a@0-1 name:b@4-5)"},
		{"a == b", "op ==@0-6(name:a@0-1 name:b@5-6)"},
		{"a :: b", "cons@0-6(name:a@0-1 name:b@5-6)"},
		// The forms that begin with a key word.
		{"let x = 1 in y", "let:x@0-14(num#1@8-9 name:y@13-14)"},
		{"let x : int = 1 in y", "let:x{int}@0-20(num#1@14-15 name:y@19-20)"},
		{"let rec f x = y in z", "rec:f/x@0-20(name:y@14-15 name:z@19-20)"},
		{"let rec f f = f in f", "rec:f/f@0-20(name:f@14-15 name:f@19-20)"},
		{"let rec f (x : int) = y in z", "rec:f/x{int}@0-28(name:y@22-23 name:z@27-28)"},
		{"let rec f x : bool = y in z", "rec:f/x{{bool}}@0-27(name:y@21-22 name:z@26-27)"},
		{"let rec f (x : int) : bool = y in z", "rec:f/x{int}{{bool}}@0-35(name:y@29-30 name:z@34-35)"},
		{"fun x -> y", "fun:x@0-10(name:y@9-10)"},
		{"fun (x : ?) -> y", "fun:x{?}@0-16(name:y@15-16)"},
		{"fun x -> fun y -> x", "fun:x@0-19(fun:y@9-19(name:x@18-19))"},
		{"if a then b else c", "if@0-18(name:a@3-4 name:b@10-11 name:c@17-18)"},
		{"if a then if b then 1 else 2 else 3", "if@0-35(name:a@3-4 if@10-28(name:b@13-14 num#1@20-21 num#2@27-28) num#3@34-35)"},
		{"if a then 1 else if b then 2 else 3", "if@0-35(name:a@3-4 num#1@10-11 if@17-35(name:b@20-21 num#2@27-28 num#3@34-35))"},
		{"match x with y -> z end", "match@0-23[name:y@13-14](name:x@6-7 name:z@18-19)"},
		{"match x with 1 -> a | _ -> b end", "match@0-32[num#1@13-14 any@22-23](name:x@6-7 name:a@18-19 name:b@27-28)"},
		{"match x with a -> a | a -> a end", "match@0-32[name:a@13-14 name:a@22-23](name:x@6-7 name:a@18-19 name:a@27-28)"},
		{"match x with a -> match y with a -> 1 | b -> 2 end | c -> 3 end", "match@0-63[name:a@13-14 name:c@53-54](name:x@6-7 match@18-50[name:a@31-32 name:b@40-41](name:y@24-25 num#1@36-37 num#2@45-46) num#3@58-59)"},
		{"match let x = 1 in x with y -> fun z -> z | w -> if w then 1 else 2 end", "match@0-71[name:y@26-27 name:w@44-45](let:x@6-20(num#1@14-15 name:x@19-20) fun:z@31-41(name:z@40-41) if@49-67(name:w@52-53 num#1@59-60 num#2@66-67))"},
		// Every expression goes as far as it can: what follows belongs to the innermost one.
		{"let x = 1 in x + 1 :: []", "let:x@0-24(num#1@8-9 cons@13-24(op +@13-18(name:x@13-14 num#1@17-18) nil@22-24))"},
		{"fun x -> x x", "fun:x@0-12(app@9-12(name:x@9-10 name:x@11-12))"},
		{"if a then b else c = d", "if@0-22(name:a@3-4 name:b@10-11 op =@17-22(name:c@17-18 name:d@21-22))"},
		{"if a = b then c else d", "if@0-22(op =@3-8(name:a@3-4 name:b@7-8) name:c@14-15 name:d@21-22)"},
		{"let x = a = b in x", "let:x@0-18(op =@8-13(name:a@8-9 name:b@12-13) name:x@17-18)"},
		{"let x = let y = 1 in y in x", "let:x@0-27(let:y@8-22(num#1@16-17 name:y@21-22) name:x@26-27)"},
		{"match f x with g -> h i end", "match@0-27[name:g@15-16](app@6-9(name:f@6-7 name:x@8-9) app@20-23(name:h@20-21 name:i@22-23))"},
	} {
		checkParsed(t, c[0], c[1])
	}
}

func TestPatterns(t *testing.T) {
	for _, c := range [][2]string{
		{"_", "any@13-14"},
		{"x", "name:x@13-14"},
		{"0", "num@13-14"},
		{"~5", "num#-5@13-15"},
		{`"a\0a"`, `str"a\n"@13-19`},
		{"true", "bool#1@13-17"},
		{"false", "bool@13-18"},
		{"()", "unit@13-15"},
		{"[]", "nil@13-15"},
		{"[ ]", "nil@13-16"},
		{"(y)", "name:y@14-15"},
		{"(((_)))", "any@16-17"},
		{"(y, z)", "pair@13-19(name:y@14-15 name:z@17-18)"},
		{"(_, _)", "pair@13-19(any@14-15 any@17-18)"},
		{"y :: z", "cons@13-19(name:y@13-14 name:z@18-19)"},
		{"y :: z :: []", "cons@13-25(name:y@13-14 cons@18-25(name:z@18-19 nil@23-25))"},
		{"(y :: z) :: []", "cons@14-27(cons@14-20(name:y@14-15 name:z@19-20) nil@25-27)"},
		{"(y) :: (z)", "cons@14-22(name:y@14-15 name:z@21-22)"},
		{"((y, 1) :: z, ())", "pair@13-30(cons@14-25(pair@14-20(name:y@15-16 num#1@18-19) name:z@24-25) unit@27-29)"},
		{"((y), (z))", "pair@13-23(name:y@15-16 name:z@20-21)"},
		{"(x, xx) :: (x', xX)", "cons@13-32(pair@13-20(name:x@14-15 name:xx@17-19) pair@24-32(name:x'@25-27 name:xX@29-31))"},
	} {
		source := "match v with " + c[0] + " -> 0 end"
		checkParsed(t, source, fmt.Sprintf("match@0-%d[%s](name:v@6-7 num@%d-%d)", len(source), c[1], len(source)-5, len(source)-4))
	}
}

// levels are the operators that bind equally tightly, from the loosest ones on.
var levels = [][]string{{"<", "=", "=="}, {"::"}, {"+", "-"}, {"*", "/"}, {""}}

func levelOf(op string) int {
	return slices.IndexFunc(levels, func(l []string) bool { return slices.Contains(l, op) })
}

// bracketed is a chain of operands with all its parentheses, or "" if it may not be.
func bracketed(operands, ops []string) string {
	if len(ops) == 0 {
		return operands[0]
	}
	loosest := 0
	for i, op := range ops {
		switch level, least := levelOf(op), levelOf(ops[loosest]); {
		case level < least, level == least && level > 1:
			loosest = i
		case i > 0 && level == least && level == 0:
			return ""
		}
	}
	left := bracketed(operands[:loosest+1], ops[:loosest])
	right := bracketed(operands[loosest+1:], ops[loosest+1:])
	if left == "" || right == "" {
		return ""
	}
	return "(" + left + " " + ops[loosest] + " " + right + ")"
}

// TestOperators holds every chain of up to four operators, of which the empty
// one is an application, against the same with all parentheses.
func TestOperators(t *testing.T) {
	all := slices.Concat(levels...)
	operands := []string{"a", "b", "c", "d", "e"}
	var extend func(ops []string)
	extend = func(ops []string) {
		checkChain(t, operands[:len(ops)+1], ops)
		if len(ops) == 4 {
			return
		}
		for _, op := range all {
			extend(append(slices.Clip(ops), op))
		}
	}
	extend(nil)
}

func checkChain(t *testing.T, operands, ops []string) {
	t.Helper()
	source := operands[0]
	second, compared := 0, false
	for i, op := range ops {
		if levelOf(op) == 0 && compared && second == 0 {
			second = len(source) + 1
		}
		compared = compared || levelOf(op) == 0
		source += " " + op + " " + operands[i+1]
	}
	if second > 0 {
		// Of two comparisons the second one cannot stand there.
		checkRefused(t, source, second)
		return
	}
	e, _, err := Parse([]byte(source))
	want, _, wantErr := Parse([]byte(bracketed(operands, ops)))
	if err != api.OK || wantErr != api.OK || !tree.Same(e, want) {
		t.Errorf("%q: %s %v, want %s", source, show(e), err, bracketed(operands, ops))
	}
}

// P6.1: At.

func TestPlaces(t *testing.T) {
	for _, c := range [][2]string{
		{"  x  ", "name:x@2-3"},
		{"# x\nx# x", "name:x@4-5"},
		{" ( ( x ) ) ", "name:x@5-6"},
		{"(1 + 2) * (3)", "op *@1-12(op +@1-6(num#1@1-2 num#2@5-6) num#3@11-12)"},
		{"((1 + 2) * (3))", "op *@2-13(op +@2-7(num#1@2-3 num#2@6-7) num#3@12-13)"},
		{"(a) - ((b))", "op -@1-9(name:a@1-2 name:b@8-9)"},
		{"((a)) / (b)", "op /@2-10(name:a@2-3 name:b@9-10)"},
		{"(a) + (b)", "op +@1-8(name:a@1-2 name:b@7-8)"},
		{"(a) < (b)", "op <@1-8(name:a@1-2 name:b@7-8)"},
		{"(a) = (b)", "op =@1-8(name:a@1-2 name:b@7-8)"},
		{"(a) == (b)", "op ==@1-9(name:a@1-2 name:b@8-9)"},
		{"(a) :: (b)", "cons@1-9(name:a@1-2 name:b@8-9)"},
		{"(a :: b) :: (c)", "cons@1-14(cons@1-7(name:a@1-2 name:b@6-7) name:c@13-14)"},
		{"(f) (x)", "app@1-6(name:f@1-2 name:x@5-6)"},
		{"((f) x) (y)", "app@2-10(app@2-6(name:f@2-3 name:x@5-6) name:y@9-10)"},
		{"f (g (x))", "app@0-7(name:f@0-1 app@3-7(name:g@3-4 name:x@6-7))"},
		// These parentheses and brackets are tokens of the expression itself.
		{"f ()", "app@0-4(name:f@0-1 unit@2-4)"},
		{"() x", "app@0-4(unit@0-2 name:x@3-4)"},
		{"[] :: []", "cons@0-8(nil@0-2 nil@6-8)"},
		{"(()) :: ([])", "cons@1-11(unit@1-3 nil@9-11)"},
		{"(a, b) (c : ?)", "app@0-14(pair@0-6(name:a@1-2 name:b@4-5) asc{?}@7-14(name:c@8-9))"},
		{"((a, b)) ((c : ?))", "app@1-17(pair@1-7(name:a@2-3 name:b@5-6) asc{?}@10-17(name:c@11-12))"},
		{"((a), (b))", "pair@0-10(name:a@2-3 name:b@7-8)"},
		{"((a) : (int))", "asc{int}@0-13(name:a@2-3)"},
		{"(a : int list)", "asc{int list}@0-14(name:a@1-2)"},
		// The last kid may be enclosed, and may end with one that is.
		{"let x = (1) in (x)", "let:x@0-17(num#1@9-10 name:x@16-17)"},
		{"let rec f x = (1) in (x)", "rec:f/x@0-23(num#1@15-16 name:x@22-23)"},
		{"fun x -> (x)", "fun:x@0-11(name:x@10-11)"},
		{"fun x -> fun y -> ((x))", "fun:x@0-21(fun:y@9-21(name:x@20-21))"},
		{"(fun x -> (x))", "fun:x@1-12(name:x@11-12)"},
		{"if (a) then (b) else (c)", "if@0-23(name:a@4-5 name:b@13-14 name:c@22-23)"},
		{"if a then b else let x = 1 in f (x)", "if@0-34(name:a@3-4 name:b@10-11 let:x@17-34(num#1@25-26 app@30-34(name:f@30-31 name:x@33-34)))"},
		{"match (x) with (y) -> (z) end", "match@0-29[name:y@16-17](name:x@7-8 name:z@23-24)"},
		{"(match x with (y) :: (z) -> 1 end)", "match@1-33[cons@15-23(name:y@15-16 name:z@22-23)](name:x@7-8 num#1@28-29)"},
		{"(let x = 1 in x) + (fun y -> y)", "op +@1-30(let:x@1-15(num#1@9-10 name:x@14-15) fun:y@20-30(name:y@29-30))"},
		{"(match x with _ -> 1 end) :: (2)", "cons@1-31(match@1-24[any@14-15](name:x@7-8 num#1@19-20) num#2@30-31)"},
		{"( # (\n x # )\n)", "name:x@7-8"},
	} {
		checkParsed(t, c[0], c[1])
	}
}

// TestParenthesesChangeOffsetsOnly encloses each expression and each pattern of
// a source, at the places that it has there.
func TestParenthesesChangeOffsetsOnly(t *testing.T) {
	const source = `match f 1 - x * 2 :: [] = y with (a, b) :: _ -> let rec g (z : int) : ? = (z, "s") in g a < 3 | () -> if true then (b : bool) else fun u -> u end`
	whole, _, err := Parse([]byte(source))
	if err != api.OK {
		t.Fatal(err)
	}
	var spans []api.Span
	var patSpans func(p api.Pat)
	patSpans = func(p api.Pat) {
		spans = append(spans, p.At)
		for _, kid := range p.Kids {
			patSpans(kid)
		}
	}
	var exprSpans func(e api.Expr)
	exprSpans = func(e api.Expr) {
		spans = append(spans, e.At)
		for _, p := range e.Pats {
			patSpans(p)
		}
		for _, kid := range e.Kids {
			exprSpans(kid)
		}
	}
	exprSpans(whole)
	o := newOracle()
	for _, at := range spans {
		for _, around := range []string{"()", "(  )"} {
			left, right := around[:len(around)/2], around[len(around)/2:]
			enclosed := source[:at.From] + left + source[at.From:at.To] + right + source[at.To:]
			check(t, o, enclosed)
			if e, _, err := Parse([]byte(enclosed)); err != api.OK || !tree.Same(e, whole) {
				t.Errorf("%q: %s %v", enclosed, show(e), err)
			}
		}
	}
	if len(spans) != 33 {
		t.Error(len(spans), "expressions and patterns")
	}
}

// P6.1: names that occur twice in a pattern.

func TestNamesInPatterns(t *testing.T) {
	for _, s := range []string{
		"(y, ^y)", "y :: ^y", "(y, 1 :: ^y)", "((y, y'), (^y, z))", "((y), ((^y)))", "y :: _ :: z :: ^z :: y", "((y, z), (^z, y))",
		"(y :: z, ([], x :: ^y))", "_ :: (_, (_, y)) :: ^y", "(y, ^y", "(y, ^y : int)", "y :: ^y y", "(y, ^y) -> 1 | (z, z)",
		"1 -> y | (z, (x, ^x))", "y -> y | y -> y | y :: ^y", "y -> match y with (z, ^z)", "y -> match y with y -> y | (y, ^y)",
	} {
		source := "match x with " + s + " -> 1 end"
		at := strings.IndexByte(source, '^')
		source = strings.Replace(source, "^", "", 1)
		checkRefused(t, source, at)
		checkRefused(t, source[:at+1], at)
		checkRefused(t, source+" end )", at)
		// With another name there, or none, this is no error.
		for _, other := range []string{"w", "_"} {
			if _, other, _ := Parse([]byte(source[:at] + other + source[at+1:])); other == at {
				t.Errorf("%q: %d", source, at)
			}
		}
	}
	for _, s := range []string{
		"match x with x -> x end", "match x with (y, z) -> y | (y, z) -> z end", "match x with y -> match y with y -> y end | y -> y end",
		"match match x with y -> y end with y -> y end", "match fun y -> y with y -> fun y -> y end", "match x with (a, aa) :: (a', aA) -> a end",
		"match x with (_, _) :: _ -> 1 end", "let rec f f = fun f -> f in let f = f in f",
	} {
		if e, at, err := Parse([]byte(s)); err != api.OK || tree.Check(e) != api.OK {
			t.Errorf("%q: %d %v", s, at, err)
		}
	}
}

// P6.1: types within expressions.

func TestTypesInExpressions(t *testing.T) {
	for _, c := range [][2]string{
		{"int", "int"}, {"bool", "bool"}, {"string", "string"}, {"unit", "unit"}, {"?", "?"}, {"(int)", "int"}, {"((?))", "?"},
		{"int list", "int list"}, {"int list list", "(int list) list"}, {"int * bool", "int * bool"}, {"int -> bool", "int -> bool"},
		{"int -> bool -> ?", "int -> (bool -> ?)"}, {"(int -> bool) -> ?", "(int -> bool) -> ?"}, {"int * bool list -> ? * unit", "(int * (bool list)) -> (? * unit)"},
		{"((int * ?) list -> (unit -> string)) list", "(((int * ?) list) -> (unit -> string)) list"},
	} {
		source := func(form string) string { return strings.Replace(form, "T", c[0], 1) }
		n := len(c[0])
		checkParsed(t, source("(x:T)"), fmt.Sprintf("asc{%s}@0-%d(name:x@1-2)", c[1], 4+n))
		checkParsed(t, source("fun (x:T)->x"), fmt.Sprintf("fun:x{%s}@0-%d(name:x@%d-%d)", c[1], 11+n, 10+n, 11+n))
		checkParsed(t, source("let x:T=1 in 2"), fmt.Sprintf("let:x{%s}@0-%d(num#1@%d-%d num#2@%d-%d)", c[1], 13+n, 7+n, 8+n, 12+n, 13+n))
		checkParsed(t, source("let rec f(x:T)=1 in 2"), fmt.Sprintf("rec:f/x{%s}@0-%d(num#1@%d-%d num#2@%d-%d)", c[1], 20+n, 14+n, 15+n, 19+n, 20+n))
		checkParsed(t, source("let rec f x:T=1 in 2"), fmt.Sprintf("rec:f/x{{%s}}@0-%d(num#1@%d-%d num#2@%d-%d)", c[1], 19+n, 13+n, 14+n, 18+n, 19+n))
	}
}

// TestErrorsInTypes has a ^ at the token that cannot stand there.
func TestErrorsInTypes(t *testing.T) {
	forms := []string{"(x : T) + 1", "fun (x : T) -> x", "let rec f (x : T) = 1 in 2", "let x : T = 1 in 2", "let rec f x : T = 1 in 2"}
	for _, s := range []string{
		// No type begins with it.
		"^list", "^*", "^-> int", "^x", "^1", `^"int"`, "^[]", "^_", "^let", "^int'", "^end", "^:", "^=",
		// It does not continue the type, or what the type stands in.
		"int * ^list", "int ^int", "int * int ^* int", "(int ^x)", "(int ^, int)", "(^)", "((int) -> ^)", "int -> ^-> int", "int ->^* int",
		"int list ^? list", "? ^(int)", "int ^:: int", "int ^- int", "int ^_", "(int list ^[", "(int ^= int)", "int ^== 1", "int ^in",
	} {
		for _, form := range forms {
			source := strings.Replace(form, "T", s, 1)
			at := strings.IndexByte(source, '^')
			source = strings.Replace(source, "^", "", 1)
			checkRefused(t, source, at)
			checkRefused(t, source[:at+2], at)
		}
	}
	for _, form := range forms {
		for _, s := range []string{"", "int *", "int ->", "(", "(int", "(int * bool", "(int list ->"} {
			source := form[:strings.IndexByte(form, 'T')] + s
			checkRefused(t, source, len(source))
			checkRefused(t, source+" ", len(source)+1)
			checkRefused(t, source+" #)\n", len(source)+4)
		}
	}
}

// P6.1: errors.

// samples are all tokens that there are, as far as the grammar tells them apart.
func samples() []string {
	return strings.Fields(`let rec in fun if then else match with end true false int bool string unit list
		-> :: == ( ) [ ] , : = | + - * / < ? _ w 8 "s"`)
}

// seeds are sources that together have every form, with blanks between all tokens.
func seeds() []string {
	return []string{
		"x", "5", `"a"`, "true", "false", "( )", "[ ]", "( x )", "( x , y )", "( x : int )", "( ( 1 , 2 ) : int * int )",
		"let x = 1 in x", "let x : int = 1 in x", "let x : ? -> ? list = 1 in x", "let rec f x = x in f", "let rec f x : int = x in f",
		"let rec f ( x : int ) = x in f", "let rec f ( x : int ) : bool * ? = x in f", "fun x -> x", "fun ( x : ? ) -> x", "fun ( x : ( int ) ) -> ( x )",
		"if a then b else c", "if if a then b else c then let x = 1 in x else fun y -> y", "match x with y -> z end", "match x with y -> z | _ -> 1 end",
		"match ( x ) with y :: z :: [ ] -> y | ( a , _ ) -> a end", "match x with ( ( ) ) -> 1 | true -> 2 | false -> 3 | 1 -> 4 | \"s\" -> 5 end",
		"match x with ( a , ( b :: [ ] ) ) :: c -> match a with d -> e end | f -> g end",
		"f x", "f x y", "f ( g x ) [ ]", "a * b", "a * b / c", "a + b", "a - b + c * d", "a :: b", "a :: b :: c", "a < b", "a = b", "a == b",
		"a + b :: c < d e / f", "( a < b ) = ( c == d )", "let f = fun x -> x = 1 in if f 1 then 1 :: [ ] else [ ]",
	}
}

// words is a source without some tokens and with others in their place.
func words(l []string, from, to int, others ...string) string {
	return strings.Join(slices.Concat(l[:from], others, l[to:]), " ")
}

func TestChangedForms(t *testing.T) {
	o := newOracle()
	for _, seed := range seeds() {
		l := strings.Fields(seed)
		check(t, o, seed)
		for i := range l {
			check(t, o, words(l, i, len(l)))
			check(t, o, words(l, i, i+1))
			check(t, o, words(l, i, i, l[i]))
			if i > 0 {
				check(t, o, words(l, i-1, i+1, l[i], l[i-1]))
			}
		}
		for _, s := range samples() {
			for i := range l {
				check(t, o, words(l, i, i+1, s))
				check(t, o, words(l, i, i, s))
			}
			check(t, o, seed+" "+s)
		}
	}
}

func TestSeedsArePrograms(t *testing.T) {
	for _, seed := range seeds() {
		if _, at, err := Parse([]byte(seed)); err != api.OK {
			t.Errorf("%q: %d %v", seed, at, err)
		}
	}
}

// sequences tries all sequences of some tokens behind others, up to a length,
// and goes on only behind what may be continued.
func sequences(t *testing.T, before, after string, tokens []string, more int) {
	t.Helper()
	o := newOracle()
	var extend func(source string, more int)
	extend = func(source string, more int) {
		_, at, err := o.want(source)
		check(t, o, source)
		if after != "" && (err == api.OK || at == len(source)) {
			check(t, o, source+after)
		}
		if more == 0 || err != api.OK && at < len(source) {
			return
		}
		for _, s := range tokens {
			extend(source+" "+s, more-1)
		}
	}
	extend(before, more)
}

func TestShortSequencesOfAllTokens(t *testing.T) { sequences(t, "", "", samples(), 4) }

func TestSequencesOfOperators(t *testing.T) {
	sequences(t, "", "", strings.Fields("x ( ) + * :: < ="), 7)
	sequences(t, "", "", strings.Fields("x - / == ::"), 8)
}

func TestSequencesOfAtoms(t *testing.T) {
	sequences(t, "", "", strings.Fields("x ( ) , : int [ ]"), 7)
	sequences(t, "f", " y", strings.Fields(`1 "s" true false ( ) [ ] _`), 4)
}

func TestSequencesOfPatterns(t *testing.T) {
	sequences(t, "match x with", " -> 1 end", strings.Fields("y z ( ) , ::"), 8)
	sequences(t, "match x with", " -> 1 end", strings.Fields("y _ [ ] 1 true false \"s\" :: ( )"), 4)
	sequences(t, "match x with", " end", strings.Fields("y -> | , ( )"), 8)
}

func TestSequencesOfKeyWords(t *testing.T) {
	sequences(t, "", "", strings.Fields("if then else x fun ->"), 8)
	sequences(t, "", "", strings.Fields("let rec in = f"), 9)
	sequences(t, "let", " f in f", strings.Fields("rec f ( : int ) ="), 8)
	sequences(t, "fun", " -> x", strings.Fields("f ( : int ) -> ?"), 7)
}

func TestTokensThatEndTooEarly(t *testing.T) {
	for _, s := range []string{
		"", "let", "let x", "let x =", "let x = 1", "let x = 1 in", "let x :", "let x : int", "let x : int ->", "let rec", "let rec f", "let rec f x",
		"let rec f (", "let rec f (x", "let rec f (x :", "let rec f (x : int", "let rec f (x : int)", "let rec f x :", "let rec f x : ?", "let rec f x =",
		"let rec f x = 1", "let rec f x = 1 in", "fun", "fun x", "fun (", "fun (x", "fun (x :", "fun (x : int", "fun (x : int)", "fun x ->",
		"if", "if a", "if a then", "if a then b", "if a then b else", "match", "match x", "match x with", "match x with y", "match x with y ->",
		"match x with y -> z", "match x with y -> z |", "match x with (", "match x with (y", "match x with (y,", "match x with (y, z", "match x with y ::",
		"match x with [", "(", "(x", "(x,", "(x, y", "(x :", "(x : int", "[", "a <", "a =", "a ==", "a ::", "a +", "a -", "a *", "a /", "f (", "f ((x)", "a + (b * ",
	} {
		checkRefused(t, s, len(s))
		checkRefused(t, s+" \n", len(s)+2)
		checkRefused(t, s+"#1) in end", len(s)+10)
		checkRefused(t, "(1, "+s, len(s)+4)
	}
}

func TestTokensOfTheWrongKind(t *testing.T) {
	// What only looks like a key word, a sign or a name is none.
	for _, c := range []struct {
		source string
		at     int
	}{
		{`"let" x = 1 in x`, 12}, {`("`, 1}, {`"("x)`, 4}, {`(x")"`, 5}, {`(x "," y : int) "in" )`, 21}, {`let x "=" 1 in x`, 6}, {`let "x" = 1 in x`, 4}, {`fun "x" -> x`, 4},
		{`fun x "->" x`, 6}, {`match x "with" y -> 1 end`, 17}, {`match x with "y" "->" 1 end`, 17}, {`match x with y -> 1 "end"`, 25}, {`match x with y "::" z -> 1 end`, 15},
		{`[ "]"`, 2}, {`(x : "int")`, 5}, {`if a "then" b else c`, 14}, {`let rec "f" x = 1 in x`, 8}, {`let "rec" f x = 1 in x`, 4}, {`let x ":" int = 1 in x`, 6},
		{"int", 0}, {"list", 0}, {"f int", 2}, {"let list = 1 in 1", 4}, {"let true = 1 in 1", 4}, {"fun unit -> 1", 4}, {"match x with int -> 1 end", 13}, {"let 1 = 1 in 1", 4},
		{"_", 0}, {"f _", 2}, {"fun _ -> 1", 4}, {"let rec _ x = 1 in 1", 8}, {"let rec f _ = 1 in 1", 10}, {"(_, 1)", 1}, {"? ", 0}, {"f ?", 2}, {"match x with ? -> 1 end", 13},
		{"letx = 1 in x", 9}, {"let x = 1 inx", 13}, {"funx -> x", 5}, {"iff a then b else c", 6},
	} {
		checkRefused(t, c.source, c.at)
	}
	checkParsed(t, `"let"`, `str"let"@0-5`)
	checkParsed(t, `(")" "+", "x")`, `pair@0-14(app@1-8(str")"@1-4 str"+"@5-8) str"x"@10-13)`)
	checkParsed(t, "lets iff", "app@0-8(name:lets@0-4 name:iff@5-8)")
}

func TestErrorsOfTokens(t *testing.T) {
	for _, c := range []struct {
		source string
		at     int
	}{
		{"^", 0}, {"x ^", 2}, {"let x = ; in x", 8}, {"X", 0}, {"f X", 2}, {"007", 0}, {"1 + 01", 4}, {"~", 0}, {"~0", 0}, {"a ~ b", 2},
		{"9223372036854775808", 0}, {"~9223372036854775809", 0}, {`"a`, 0}, {`f "\2"`, 2}, {"\"\n\"", 0}, {"x\x00", 1}, {"x \xff", 2}, {"é", 0},
		{"x{}", 1}, {"x.y", 1}, {"a && b", 2}, {"a > b", 2}, {"'a", 0}, {"!x", 0}, {strings.Repeat("a", 33), 0},
		{"f " + strings.Repeat("a", 33), 2}, {`"` + strings.Repeat("a", 201) + `"`, 0},
		// They come first, also where the tokens ahead of them are no program.
		{") ^", 2}, {"let let X", 8}, {"(x : list) ~", 11}, {"match x with (y, y) -> 01 end", 23}, {"a < b < c \"", 10}, {"in in in ;", 9}, {"1 2 ) # X\n X", 11},
	} {
		checkRefused(t, c.source, c.at)
	}
	checkParsed(t, "x # ^ \xff", "name:x@0-1")
	checkParsed(t, strings.Repeat("a", 32), "name:"+strings.Repeat("a", 32)+"@0-32")
}

func TestBytesThatAreNoSource(t *testing.T) {
	o := newOracle()
	for a := range 256 {
		check(t, o, string([]byte{byte(a)}))
		for b := range 256 {
			check(t, o, string([]byte{byte(a), byte(b)}))
		}
	}
	chance := rand.New(rand.NewSource(6))
	const bytes = "x1~\"\\()[],:=|+-*/<?_> \n#A'{\x00\xff"
	for range 20000 {
		s := make([]byte, chance.Intn(24))
		for i := range s {
			s[i] = bytes[chance.Intn(len(bytes))]
		}
		check(t, o, string(s))
	}
	for _, s := range []string{"", " ", "\n\n", "#", "# x", "\t#\r\n"} {
		checkRefused(t, s, len(s))
	}
	if e, at, err := Parse(nil); !zero(e) || at != 0 || err != api.ErrText {
		t.Error(show(e), at, err)
	}
}

func TestSize(t *testing.T) {
	full := "x" + strings.Repeat(" ", api.MaxBytes-1)
	checkParsed(t, full, "name:x@0-1")
	checkParsed(t, strings.Repeat("\n", api.MaxBytes-1)+"x", "name:x@16383-16384")
	checkRefused(t, strings.Repeat(" ", api.MaxBytes), api.MaxBytes)
	for _, s := range []string{full + " ", full + "x", ")" + full, "^" + full, strings.Repeat("(", 1<<20)} {
		checkRefused(t, s, api.MaxBytes)
	}
}

// TestWrittenSources holds Parse against sources that are written by the rules.
func TestWrittenSources(t *testing.T) {
	o := newOracle()
	kinds := map[string]int{}
	for i := range 2000 {
		w := newWriter(o, int64(i))
		e := w.write("expr", 8+i%16).e
		if len(w.source) > api.MaxBytes {
			continue
		}
		checkParsed(t, w.source, show(e))
		for _, word := range strings.FieldsFunc(show(e), func(c rune) bool { return strings.ContainsRune("()[] @:#/{\"", c) }) {
			kinds[word]++
		}
		l, _, _ := lex.Scan([]byte(w.source))
		for range 3 {
			// What ends too early, or goes on, is mostly no program any more.
			from, to := w.chance.Intn(len(l)), w.chance.Intn(len(l))
			if len(l) < 60 {
				check(t, o, w.source[:l[from].To]+" "+w.source[l[to].From:])
			}
		}
	}
	for _, word := range strings.Fields("name num bool str unit pair nil cons fun app let rec if match asc op any") {
		if kinds[word] < 100 {
			t.Error(word, kinds[word])
		}
	}
}

// P6.2: an error is reported at one offset.

func TestWhatFollowsAnErrorDoesNotCount(t *testing.T) {
	o := newOracle()
	for _, seed := range seeds() {
		l := strings.Fields(seed)
		for i := range l {
			for _, s := range samples() {
				source := words(l, i, len(l), s)
				at, err := errorIn(source)
				if err == api.OK || at == len(source) {
					continue
				}
				want, _, _ := o.want(source)
				if !zero(want) {
					t.Errorf("%q is a program", source)
				}
				for _, more := range []string{"", " ", "#", " )", " in", " end x", "\n" + seed, " (" + source, strings.Repeat(" )", 20)} {
					checkRefused(t, source+more, at)
				}
				for _, other := range samples() {
					checkRefused(t, source+" "+other, at)
				}
			}
		}
	}
}

func errorIn(source string) (int, api.Errno) {
	_, at, err := Parse([]byte(source))
	return at, err
}

func TestBlanksChangeOffsetsOnly(t *testing.T) {
	o := newOracle()
	for _, seed := range append(seeds(), "let x = 1 x", "f ( x , 1 ) :", "match x with ( y , y ) -> 1 end", "( x : list )") {
		whole, _, err := Parse([]byte(seed))
		for _, blank := range []string{"\n", "  ", "\t\r", " # ) X \"\n"} {
			source := blank + strings.ReplaceAll(seed, " ", blank) + blank
			check(t, o, source)
			e, _, spreadErr := Parse([]byte(source))
			if spreadErr != err || !tree.Same(e, whole) {
				t.Errorf("%q: %s %v", source, show(e), spreadErr)
			}
		}
	}
}

// The rules: every call ends, arguments stay as they are, results are new.

// deep is a source that is nested as far as there is room.
func deep(begin, middle, end string) (string, int) {
	times := (api.MaxBytes - len(middle)) / (len(begin) + len(end))
	return strings.Repeat(begin, times) + middle + strings.Repeat(end, times), times
}

func TestDeepSources(t *testing.T) {
	// A fraction of what there is: calls may be nested, but little room is needed each time.
	defer debug.SetMaxStack(debug.SetMaxStack(1 << 27))
	for _, c := range []struct {
		begin, middle, end string
		depth              int // of the tree, for each time
	}{
		{"(", "x", ")", 0}, {"(1,", "x", ")", 1}, {"(", "x", ",1)", 1}, {"(", "x", ":?)", 1}, {"f(", "x", ")", 1}, {"", "x", " x", 1}, {"(", "f", ")x", 1},
		{"1::", "[]", "", 1}, {"(", "[]", ")::x", 1}, {"", "1", "+1", 1}, {"", "1", "-1", 1}, {"", "1", "*1", 1}, {"", "1", "/1", 1}, {"(", "1", "<1)", 1}, {"1=(", "1", ")", 1},
		{"1+(", "1", ")", 1}, {"fun x->", "x", "", 1}, {"fun(x:?)->", "x", "", 1}, {"let x=", "x", " in x", 1}, {"let x=1 in ", "x", "", 1}, {"let rec f x=", "x", " in x", 1},
		{"let rec f x=1 in ", "x", "", 1}, {"if ", "x", " then 1 else 1", 1}, {"if 1 then ", "x", " else 1", 1}, {"if 1 then 1 else ", "x", "", 1},
		{"match ", "x", " with x->1 end", 1}, {"match x with x->", "x", " end", 1}, {"match x with x->1|x->", "x", " end", 1},
	} {
		source, times := deep(c.begin, c.middle, c.end)
		e, at, err := Parse([]byte(source))
		if want := 1 + c.depth*times; tree.Depth(e) != want || at != 0 || err != api.OK || tree.Check(e) != api.OK {
			t.Errorf("%.40q: depth %d (not %d) %d %v", source, tree.Depth(e), want, at, err)
		}
		checkDeepErrors(t, source, c.begin, c.middle, c.end, times)
	}
}

// checkDeepErrors cuts a deep source off and puts what may not be at its middle
// and at its end.
func checkDeepErrors(t *testing.T, source, begin, middle, end string, times int) {
	t.Helper()
	inside := len(begin) * times
	checkRefused(t, source[:inside]+"?", inside)
	if begin != "" {
		checkRefused(t, source[:inside], inside)
	}
	if end != "" && begin != "" {
		checkRefused(t, source[:len(source)-len(end)], len(source)-len(end))
		checkRefused(t, source[:inside+len(middle)]+"?"+source[inside+len(middle)+1:], inside+len(middle))
	}
	if len(source) < api.MaxBytes {
		checkRefused(t, source+")", len(source))
	}
}

func TestDeepSourcesThatEndTooEarly(t *testing.T) {
	defer debug.SetMaxStack(debug.SetMaxStack(1 << 27))
	for _, c := range []struct{ before, times string }{
		{"", "("}, {"", "f("}, {"", "1+("}, {"", "1*("}, {"", "1<("}, {"", "1::("}, {"", "(1,"}, {"", "1::"}, {"", "1+"}, {"", "if "}, {"", "if 1 then "},
		{"", "if(1)then 1 else "}, {"", "fun x->"}, {"", "fun(x:?)->"}, {"", "let x="}, {"", "let x=1 in "}, {"", "let rec f x="}, {"", "match "},
		{"", "match x with x->"}, {"", "match x with x->(1,"}, {"match x with", "("}, {"match x with", "(1,"}, {"match x with", "1::("}, {"match x with ", "_::"},
		{"(x:", "("}, {"(x:", "?*("}, {"let x:", "int->"}, {"fun(x:", "?->("},
	} {
		source := c.before + strings.Repeat(c.times, (api.MaxBytes-len(c.before))/len(c.times))
		checkRefused(t, source, len(source))
		source = strings.TrimSuffix(source, c.times)
		checkRefused(t, source+"]", len(source))
	}
}

func TestDeepPatternsAndTypes(t *testing.T) {
	for _, c := range []struct {
		before, begin, middle, end, after string
		depth                             int
	}{
		{"match x with ", "(", "y", ")", "->1 end", 0}, {"match x with ", "1::", "y", "", "->1 end", 1}, {"match x with ", "(1,", "y", ")", "->1 end", 1},
		{"match x with ", "(", "y", ",_)", "->1 end", 1}, {"match x with ", "(", "y", ")::1", "->1 end", 1},
		{"(x:", "(", "?", ")", ")", 0}, {"(x:", "", "?", " list", ")", 1}, {"fun(x:", "?->", "?", "", ")->x", 1}, {"let x:", "(", "?", ")list", "=1 in x", 1},
		{"let rec f x:", "int*(", "?", ")", "=1 in x", 1}, {"let rec f(x:", "(", "?", "->int)", ")=1 in x", 1},
	} {
		room := api.MaxBytes - len(c.before) - len(c.middle) - len(c.after)
		times := room / (len(c.begin) + len(c.end))
		inside := strings.Repeat(c.begin, times) + c.middle + strings.Repeat(c.end, times)
		source := c.before + inside + c.after
		e, at, err := Parse([]byte(source))
		if depth := tree.Depth(e); depth < 2 || depth != 2+c.depth*times || at != 0 || err != api.OK || tree.Check(e) != api.OK {
			t.Errorf("%.40q: depth %d %d %v", source, depth, at, err)
		}
		checkRefused(t, c.before+inside, len(c.before+inside))
		checkRefused(t, c.before+inside+"|", len(c.before+inside))
	}
}

func TestManyArms(t *testing.T) {
	const arm = "|(y,z)->y"
	times := (api.MaxBytes - len("match x with x->x end")) / len(arm)
	source := "match x with x->x" + strings.Repeat(arm, times) + " end"
	e, _, err := Parse([]byte(source))
	if err != api.OK || len(e.Pats) != times+1 || len(e.Kids) != times+2 || tree.Check(e) != api.OK {
		t.Fatal(len(e.Pats), len(e.Kids), err)
	}
	for i := range times {
		from := len("match x with x->x") + i*len(arm)
		if got, want := showPat(e.Pats[i+1]), fmt.Sprintf("pair@%d-%d(name:y@%d-%d name:z@%d-%d)", from+1, from+6, from+2, from+3, from+4, from+5); got != want {
			t.Fatal(got, want)
		}
		if got, want := show(e.Kids[i+2]), fmt.Sprintf("name:y@%d-%d", from+8, from+9); got != want {
			t.Fatal(got, want)
		}
	}
	checkRefused(t, source[:len(source)-3]+"in ", len(source)-3)
}

func TestManyNamesInAPattern(t *testing.T) {
	source := "match x with "
	for i := range 2000 {
		source += fmt.Sprintf("a%d::", i)
	}
	for _, i := range []int{0, 1, 999, 1999} {
		checkRefused(t, fmt.Sprintf("%sa%d->1 end", source, i), len(source))
	}
	if e, at, err := Parse([]byte(source + "b->1 end")); err != api.OK || tree.Check(e) != api.OK {
		t.Error(at, err)
	}
}

func TestTheSourceIsNotChangedAndNotKept(t *testing.T) {
	const source = `let x' : int = ("a\22", y) in match x' with (z, "b") -> z end`
	o := newOracle()
	want, _, _ := o.want(source)
	whole := []byte(source + " end x")
	before := slices.Clone(whole)
	e, at, err := Parse(whole[:len(source)])
	if !bytes.Equal(whole, before) {
		t.Errorf("the source is changed: %q", whole)
	}
	for i := range whole {
		whole[i] = ';'
	}
	if show(e) != show(want) || at != 0 || err != api.OK {
		t.Error(show(e), at, err)
	}
}

func TestSpareCapacityIsNotRead(t *testing.T) {
	whole := []byte("let x = f 1 + y in (x, 2) # :")
	o := newOracle()
	for from := range whole {
		for to := from; to <= len(whole); to++ {
			want, wantAt, wantErr := o.want(string(whole[from:to]))
			if e, at, err := Parse(whole[from:to]); show(e) != show(want) || at != wantAt || err != wantErr {
				t.Errorf("%q: %s %d %v", whole[from:to], show(e), at, err)
			}
		}
	}
}

// lists collects where the elements of all lists of an expression are, with
// their spare capacity.
type lists struct {
	exprs map[*api.Expr]int
	pats  map[*api.Pat]int
	types map[*api.Type]int
}

func (l lists) addType(x api.Type) {
	kids := x.Kids[:cap(x.Kids)]
	for i := range kids {
		l.types[&kids[i]]++
	}
	for _, kid := range x.Kids {
		l.addType(kid)
	}
}

func (l lists) addPats(x []api.Pat) {
	all := x[:cap(x)]
	for i := range all {
		l.pats[&all[i]]++
	}
	for _, p := range x {
		l.addPats(p.Kids)
	}
}

func (l lists) add(e api.Expr) {
	kids := e.Kids[:cap(e.Kids)]
	for i := range kids {
		l.exprs[&kids[i]]++
	}
	l.addType(e.A)
	l.addType(e.B)
	l.addPats(e.Pats)
	for _, kid := range e.Kids {
		l.add(kid)
	}
}

func TestNoTwoListsOfResultsShareMemory(t *testing.T) {
	l := lists{map[*api.Expr]int{}, map[*api.Pat]int{}, map[*api.Type]int{}}
	for _, seed := range append(seeds(), seeds()...) {
		e, _, _ := Parse([]byte(seed))
		l.add(e)
	}
	for e, n := range l.exprs {
		if n > 1 {
			t.Error(show(*e), n)
		}
	}
	for p, n := range l.pats {
		if n > 1 {
			t.Error(showPat(*p), n)
		}
	}
	for x, n := range l.types {
		if n > 1 {
			t.Error(showType(*x), n)
		}
	}
}

func FuzzParse(f *testing.F) {
	for _, seed := range append(seeds(), "f (x, 1) :", "let x = 1 x", "match x with (y, y) -> 1 end", "a<b<c", "(x:int*int*int)", "007", "\xff", "#") {
		f.Add(seed)
	}
	f.Fuzz(func(t *testing.T, s string) {
		if len(s) > 200 {
			return
		}
		o := newOracle()
		check(t, o, s)
		if at, err := errorIn(s); err != api.OK && at < len(s) {
			if _, _, scanErr := lex.Scan([]byte(s)); scanErr == api.OK {
				checkRefused(t, s+"\n)", at)
			}
		}
	})
}
