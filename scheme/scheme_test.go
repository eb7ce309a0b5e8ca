package scheme

import (
	"fmt"
	"math"
	"regexp"
	"runtime/debug"
	"slices"
	"strings"
	"testing"

	"surety/api"
	"surety/prec"
	"surety/typ"
)

func leaf(kind int) api.Type { return api.Type{Kind: kind} }

func number(n int) api.Type { return api.Type{Kind: api.TVar, N: n} }

func treeOf(kind int, kids ...api.Type) api.Type { return api.Type{Kind: kind, Kids: kids} }

func pair(a, b api.Type) api.Type { return treeOf(api.TPair, a, b) }

func fun(a, b api.Type) api.Type { return treeOf(api.TFun, a, b) }

func list(a api.Type) api.Type { return treeOf(api.TList, a) }

func bind(n int, t api.Type) api.Bind { return api.Bind{Var: n, Type: t} }

func binds(l ...api.Bind) []api.Bind { return l }

// The leaves, by short names.
var (
	i = leaf(api.TInt)
	b = leaf(api.TBool)
	s = leaf(api.TStr)
	u = leaf(api.TUnit)
	d = leaf(api.TDyn)
	v = number(0)
	w = number(1)
	x = number(2)
)

// text is the whole of a type: each node is <kind.N and its kids>.
func text(t api.Type) string {
	var kids strings.Builder
	for _, kid := range t.Kids {
		kids.WriteString(text(kid))
	}
	return fmt.Sprintf("<%d.%d%s>", t.Kind, t.N, kids.String())
}

// textOf is the whole of binds, each with its number.
func textOf(l []api.Bind) string {
	var all strings.Builder
	for _, one := range l {
		fmt.Fprintf(&all, "%d is %s; ", one.Var, text(one.Type))
	}
	return all.String()
}

// rightTypes are all right types of at most so many nodes from some leaves.
func rightTypes(most int, leaves ...api.Type) []api.Type {
	l := [][]api.Type{nil, leaves}
	for size := 2; size <= most; size++ {
		var next []api.Type
		for _, t := range l[size-1] {
			next = append(next, list(t))
		}
		for first := 1; first < size-1; first++ {
			for _, t := range l[first] {
				for _, r := range l[size-1-first] {
					next = append(next, pair(t, r), fun(t, r))
				}
			}
		}
		l = append(l, next)
	}
	return slices.Concat(l...)
}

// around calls f for a way to put a type at each place of some right closed types.
func around(f func(put func(t api.Type) api.Type)) {
	for _, put := range []func(t api.Type) api.Type{
		list,
		func(t api.Type) api.Type { return pair(t, i) },
		func(t api.Type) api.Type { return pair(i, t) },
		func(t api.Type) api.Type { return fun(t, i) },
		func(t api.Type) api.Type { return fun(i, t) },
	} {
		f(put)
		f(func(t api.Type) api.Type { return list(put(t)) })
		f(func(t api.Type) api.Type { return pair(put(t), list(u)) })
		f(func(t api.Type) api.Type { return pair(fun(d, b), put(t)) })
		f(func(t api.Type) api.Type { return fun(put(t), d) })
		f(func(t api.Type) api.Type { return fun(list(list(s)), put(t)) })
	}
}

// wrongTypes are types that are not right, in each field.
func wrongTypes() []api.Type {
	l := []api.Type{
		{}, {N: 1}, treeOf(0, i), treeOf(0, i, i),
		leaf(-1), leaf(10), treeOf(10, i, i), leaf(math.MinInt), leaf(math.MaxInt), leaf(256 + api.TInt), leaf(1<<32 + api.TDyn),
		number(-1), number(api.MaxVar + 1), number(math.MinInt), number(math.MaxInt), number(1 << 32),
		treeOf(api.TVar, i), treeOf(api.TVar, d, d), treeOf(api.TVar, v),
		leaf(api.TPair), treeOf(api.TPair, i), treeOf(api.TPair, i, i, i), treeOf(api.TPair, v, v, v),
		leaf(api.TFun), treeOf(api.TFun, i), treeOf(api.TFun, i, i, i), treeOf(api.TFun, d, d, d),
		leaf(api.TList), treeOf(api.TList, i, i), treeOf(api.TList, v, d, d),
	}
	for _, n := range []int{-1, 1, 5, math.MinInt, math.MaxInt} {
		l = append(l, api.Type{Kind: api.TPair, N: n, Kids: []api.Type{i, i}},
			api.Type{Kind: api.TFun, N: n, Kids: []api.Type{i, v}},
			api.Type{Kind: api.TList, N: n, Kids: []api.Type{i}})
	}
	for _, t := range []api.Type{i, b, s, u, d} {
		for _, n := range []int{-1, 1, math.MinInt, math.MaxInt, 1 << 32} {
			l = append(l, api.Type{Kind: t.Kind, N: n})
		}
		l = append(l, treeOf(t.Kind, i), treeOf(t.Kind, d), treeOf(t.Kind, i, i), treeOf(t.Kind, api.Type{}))
	}
	return l
}

// changes calls f for t with each change at one of its nodes.
func changes(t api.Type, f func(api.Type)) {
	with := func(change func(*api.Type)) {
		r := t
		change(&r)
		f(r)
	}
	for kind := range 11 {
		with(func(r *api.Type) { r.Kind = kind })
	}
	for _, n := range []int{-1, 1, 1 << 32} {
		with(func(r *api.Type) { r.N += n })
	}
	with(func(r *api.Type) { r.Kids = append(slices.Clip(r.Kids), i) })
	with(func(r *api.Type) { r.Kids = append([]api.Type{d}, r.Kids...) })
	with(func(r *api.Type) { *r = list(*r) })
	for _, t := range []api.Type{d, v, w} {
		with(func(r *api.Type) { *r = t })
	}
	for k := range t.Kids {
		with(func(r *api.Type) { r.Kids = slices.Delete(slices.Clone(r.Kids), k, k+1) })
		with(func(r *api.Type) { *r = r.Kids[k] })
		changes(t.Kids[k], func(kid api.Type) {
			with(func(r *api.Type) {
				r.Kids = slices.Clone(r.Kids)
				r.Kids[k] = kid
			})
		})
	}
}

// largerTypes are some types that rightTypes does not reach.
func largerTypes() []api.Type {
	return []api.Type{
		fun(pair(i, d), list(v)),
		pair(fun(d, w), fun(list(v), w)),
		list(pair(list(fun(v, u)), pair(b, v))),
		fun(fun(fun(w, i), x), pair(v, pair(w, w))),
		fun(fun(pair(d, x), fun(b, v)), fun(fun(v, x), fun(d, i))),
	}
}

// P11.1: Subst.

// checkSubst checks the text of what Subst returns, which is "" for ErrArg.
func checkSubst(t *testing.T, from api.Type, l []api.Bind, want string) {
	t.Helper()
	errno := api.OK
	if want == "" {
		want, errno = text(api.Type{}), api.ErrArg
	}
	if got, e := Subst(from, l); text(got) != want || e != errno {
		t.Errorf("Subst of %s with %s: %s, %v, want %s, %v", text(from), textOf(l), text(got), e, want, errno)
	}
}

// variables are how the variables stand in the text of a type.
var variables = regexp.MustCompile(fmt.Sprintf(`<%d\.(\d+)>`, api.TVar))

// textWith is the text of t with other texts for those of its variables.
func textWith(t api.Type, texts map[string]string) string {
	return variables.ReplaceAllStringFunc(text(t), func(found string) string {
		if other, ok := texts[found]; ok {
			return other
		}
		return found
	})
}

// wantSubst is what checkSubst wants for right types and binds.
func wantSubst(t api.Type, l []api.Bind) string {
	texts := map[string]string{}
	for _, one := range slices.Backward(l) {
		texts[text(number(one.Var))] = text(one.Type)
	}
	return textWith(t, texts)
}

func TestSubst(t *testing.T) {
	l := binds(bind(0, fun(i, w)), bind(7, list(d)))
	for _, c := range [][2]api.Type{
		{i, i}, {b, b}, {s, s}, {u, u}, {d, d}, {w, w}, {number(6), number(6)}, {number(8), number(8)},
		{v, fun(i, w)}, {number(7), list(d)},
		{list(v), list(fun(i, w))}, {list(w), list(w)}, {list(d), list(d)},
		{pair(v, number(7)), pair(fun(i, w), list(d))}, {pair(number(7), v), pair(list(d), fun(i, w))},
		{fun(v, v), fun(fun(i, w), fun(i, w))}, {fun(w, v), fun(w, fun(i, w))}, {fun(i, d), fun(i, d)},
		{pair(list(pair(v, i)), fun(list(number(7)), v)), pair(list(pair(fun(i, w), i)), fun(list(list(d)), fun(i, w)))},
	} {
		checkSubst(t, c[0], l, text(c[1]))
		around(func(put func(t api.Type) api.Type) {
			checkSubst(t, put(c[0]), l, text(put(c[1])))
		})
	}
}

func TestEachTypeForAVariable(t *testing.T) {
	for _, r := range append(rightTypes(3, i, b, s, u, d, v, w), largerTypes()...) {
		checkSubst(t, v, binds(bind(0, r)), text(r))
		checkSubst(t, pair(v, fun(w, v)), binds(bind(0, r)), text(pair(r, fun(w, r))))
		checkSubst(t, fun(list(w), v), binds(bind(1, r)), text(fun(list(r), v)))
		checkSubst(t, r, binds(bind(9, i)), text(r))
	}
}

func TestNumbersOfBinds(t *testing.T) {
	numbers := []int{0, 1, 2, 255, 256, 257, 65536, api.MaxVar - 1, api.MaxVar}
	for _, n := range numbers {
		for _, m := range numbers {
			want := number(m)
			if n == m {
				want = list(number(m))
			}
			checkSubst(t, number(m), binds(bind(n, list(number(n)))), text(want))
			checkSubst(t, fun(number(m), d), binds(bind(n, list(number(n)))), text(fun(want, d)))
		}
	}
	good := binds(bind(0, i), bind(api.MaxVar, d), bind(1, list(w)))
	for _, n := range []int{-1, -2, api.MaxVar + 1, api.MaxVar + 2, math.MinInt, math.MaxInt, 1 << 32, -1 << 32} {
		for at := range len(good) + 1 {
			l := slices.Insert(slices.Clone(good), at, bind(n, i))
			for _, r := range []api.Type{i, d, v, w, list(v), fun(number(api.MaxVar), i)} {
				checkSubst(t, r, l, "")
			}
		}
		checkSubst(t, i, binds(bind(n, i)), "")
	}
}

func TestBindsOfTypesThatAreNotRight(t *testing.T) {
	good := binds(bind(0, i), bind(api.MaxVar, d), bind(1, list(w)))
	for _, wrong := range wrongTypes() {
		for at := range len(good) + 1 {
			// Also if the number has a type before, or is that of no variable.
			for _, n := range []int{0, 1, 5, api.MaxVar} {
				l := slices.Insert(slices.Clone(good), at, bind(n, wrong))
				checkSubst(t, v, l, "")
				checkSubst(t, i, l, "")
				checkSubst(t, fun(w, number(5)), l, "")
			}
		}
		around(func(put func(t api.Type) api.Type) {
			checkSubst(t, v, binds(bind(0, put(wrong))), "")
			checkSubst(t, i, binds(bind(0, put(wrong))), "")
		})
	}
}

func TestSubstOfTypesThatAreNotRight(t *testing.T) {
	for _, wrong := range wrongTypes() {
		for _, l := range [][]api.Bind{nil, {}, binds(bind(0, i)), binds(bind(1, d), bind(0, list(v))), binds(bind(-1, i)), binds(bind(0, api.Type{}))} {
			checkSubst(t, wrong, l, "")
			around(func(put func(t api.Type) api.Type) { checkSubst(t, put(wrong), l, "") })
			checkSubst(t, pair(v, wrong), l, "")
			checkSubst(t, fun(wrong, v), l, "")
		}
	}
}

func TestSeveralBindsOfOneVariable(t *testing.T) {
	for _, c := range []struct {
		l    []api.Bind
		want api.Type // of v -> w
	}{
		{binds(bind(0, i), bind(0, b)), fun(i, w)},
		{binds(bind(0, b), bind(0, i), bind(0, s)), fun(b, w)},
		{binds(bind(1, u), bind(0, i), bind(1, s), bind(0, b)), fun(i, u)},
		{binds(bind(5, u), bind(5, s), bind(1, i), bind(1, d)), fun(v, i)},
		{binds(bind(0, v), bind(0, i)), fun(v, w)},
		{binds(bind(0, w), bind(0, i), bind(1, s)), fun(w, s)},
		{binds(bind(0, list(v)), bind(0, v)), fun(list(v), w)},
	} {
		checkSubst(t, fun(v, w), c.l, text(c.want))
	}
}

func TestWhatWasInsertedIsNotChanged(t *testing.T) {
	for _, c := range []struct {
		l    []api.Bind
		want api.Type // of v * (w * x)
	}{
		{binds(bind(0, w), bind(1, v)), pair(w, pair(v, x))},
		{binds(bind(1, v), bind(0, w)), pair(w, pair(v, x))},
		{binds(bind(0, w), bind(1, x), bind(2, v)), pair(w, pair(x, v))},
		{binds(bind(0, w), bind(1, x), bind(2, i)), pair(w, pair(x, i))},
		{binds(bind(2, i), bind(1, x), bind(0, w)), pair(w, pair(x, i))},
		{binds(bind(0, list(v))), pair(list(v), pair(w, x))},
		{binds(bind(0, pair(v, v)), bind(1, fun(v, w))), pair(pair(v, v), pair(fun(v, w), x))},
		{binds(bind(2, list(pair(v, w))), bind(0, list(x)), bind(1, i)), pair(list(x), pair(i, list(pair(v, w))))},
		{binds(bind(0, v), bind(1, w), bind(2, x)), pair(v, pair(w, x))},
	} {
		checkSubst(t, pair(v, pair(w, x)), c.l, text(c.want))
	}
}

func TestBindsThatNoVariableAsksFor(t *testing.T) {
	for _, r := range append(rightTypes(4, i, d, v, w), largerTypes()...) {
		checkSubst(t, r, nil, text(r))
		checkSubst(t, r, []api.Bind{}, text(r))
		checkSubst(t, r, binds(bind(3, i), bind(api.MaxVar, list(v)), bind(4, w)), text(r))
	}
}

func TestSubstOfAllSmallTypes(t *testing.T) {
	var lists [][]api.Bind
	types := rightTypes(3, i, d, v, w)
	for k, r := range types {
		lists = append(lists, binds(bind(0, r)), binds(bind(k%2, r), bind(1, types[(7*k+3)%len(types)]), bind(0, list(r))))
	}
	for _, r := range append(rightTypes(4, i, d, v, w), largerTypes()...) {
		for _, l := range lists {
			checkSubst(t, r, l, wantSubst(r, l))
		}
	}
}

// Two substitutions are one, whose types are those of the first one after the
// second one.
func TestOneSubstitutionAfterAnother(t *testing.T) {
	for _, r := range largerTypes() {
		first := binds(bind(0, fun(w, x)), bind(1, list(v)))
		second := binds(bind(2, pair(v, i)), bind(1, d), bind(0, u))
		between, _ := Subst(r, first)
		both := binds(bind(0, fun(d, pair(v, i))), bind(1, list(u)), bind(2, pair(v, i)))
		checkSubst(t, between, second, wantSubst(r, both))
	}
}

// P11.1: Canon.

// checkCanon checks the text of what Canon returns, which is "" for ErrArg.
func checkCanon(t *testing.T, from api.Type, want string) {
	t.Helper()
	errno := api.OK
	if want == "" {
		want, errno = text(api.Type{}), api.ErrArg
	}
	if got, e := Canon(from); text(got) != want || e != errno {
		t.Errorf("Canon of %s: %s, %v, want %s, %v", text(from), text(got), e, want, errno)
	}
}

// wantCanon is what checkCanon wants for a right type.
func wantCanon(t api.Type) string {
	texts := map[string]string{}
	for _, found := range variables.FindAllString(text(t), -1) {
		if texts[found] == "" {
			texts[found] = text(number(len(texts)))
		}
	}
	return textWith(t, texts)
}

func TestCanon(t *testing.T) {
	last, ahead := number(api.MaxVar), number(api.MaxVar-1)
	for _, c := range [][2]api.Type{
		// Without variables, and with one.
		{i, i}, {d, d}, {fun(list(i), pair(b, d)), fun(list(i), pair(b, d))},
		{v, v}, {w, v}, {number(7), v}, {last, v}, {list(ahead), list(v)}, {fun(d, number(3)), fun(d, v)},
		// Several times.
		{pair(w, w), pair(v, v)}, {fun(last, fun(last, last)), fun(v, fun(v, v))},
		{pair(w, pair(v, pair(w, v))), pair(v, pair(w, pair(v, w)))},
		{fun(pair(x, number(9)), pair(number(9), x)), fun(pair(v, w), pair(w, v))},
		// In order, in reverse, and neither.
		{pair(v, pair(w, x)), pair(v, pair(w, x))}, {pair(pair(v, w), x), pair(pair(v, w), x)},
		{pair(x, pair(w, v)), pair(v, pair(w, x))}, {pair(pair(x, w), v), pair(pair(v, w), x)},
		{fun(w, v), fun(v, w)}, {fun(fun(w, x), v), fun(fun(v, w), x)}, {pair(v, pair(x, w)), pair(v, pair(w, x))},
		{pair(w, x), pair(v, w)}, {pair(x, v), pair(v, w)},
		// At both ends of the range.
		{fun(last, v), fun(v, w)}, {fun(v, last), fun(v, w)}, {pair(last, pair(ahead, pair(v, w))), pair(v, pair(w, pair(x, number(3))))},
		// In the order of the tree, a node's first kid ahead of its second one.
		{pair(list(list(x)), w), pair(list(list(v)), w)}, {fun(fun(fun(number(5), number(4)), x), w), fun(fun(fun(v, w), x), number(3))},
	} {
		checkCanon(t, c[0], text(c[1]))
		checkCanon(t, c[1], text(c[1]))
		around(func(put func(t api.Type) api.Type) {
			checkCanon(t, put(c[0]), text(put(c[1])))
		})
	}
}

func TestCanonOfAllSmallTypes(t *testing.T) {
	for _, r := range slices.Concat(rightTypes(5, d, w, x), rightTypes(5, v, w, number(api.MaxVar)), largerTypes()) {
		checkCanon(t, r, wantCanon(r))
		once, _ := Canon(r)
		checkCanon(t, once, text(once))
		// Other numbers make no difference.
		other, _ := Subst(r, binds(bind(0, number(70)), bind(1, v), bind(2, number(api.MaxVar)), bind(api.MaxVar, number(12))))
		checkCanon(t, other, text(once))
	}
}

func TestCanonOfTypesThatAreNotRight(t *testing.T) {
	for _, wrong := range wrongTypes() {
		checkCanon(t, wrong, "")
		around(func(put func(t api.Type) api.Type) { checkCanon(t, put(wrong), "") })
		checkCanon(t, pair(w, wrong), "")
		checkCanon(t, fun(wrong, w), "")
	}
}

// P11.2: Match.

// checkMatch checks what Match returns: the text of its binds, with a + ahead,
// or "" if there are none.
func checkMatch(t *testing.T, from, to api.Type, want string) {
	t.Helper()
	l, ok := Match(from, to)
	got := textOf(l)
	if ok {
		got = "+" + got
	}
	if got != want {
		t.Errorf("Match of %s and %s: %q, want %q", text(from), text(to), got, want)
	}
}

// nodesOf tells which node is at each place of a type, where a place is the way
// down to it, such as 01 for the second kid of the first kid.
func nodesOf(t api.Type) map[string]api.Type {
	l := map[string]api.Type{}
	var add func(place string, t api.Type)
	add = func(place string, t api.Type) {
		l[place] = t
		for k, kid := range t.Kids {
			add(place+string(rune('0'+k)), kid)
		}
	}
	add("", t)
	return l
}

// wantMatch is what checkMatch wants for right types: the types in the places of
// the variables, if they are fit for it and do make from the same as to.
func wantMatch(from, to api.Type) string {
	there := nodesOf(to)
	types := map[int]api.Type{}
	for place, node := range nodesOf(from) {
		if node.Kind == api.TVar {
			types[node.N] = there[place]
		}
	}
	texts := map[string]string{}
	want := "+"
	for _, found := range variables.FindAllStringSubmatch(text(from), -1) {
		var n int
		fmt.Sscan(found[1], &n)
		if texts[found[0]] == "" {
			texts[found[0]] = text(types[n])
			want += textOf(binds(bind(n, types[n])))
		}
		if strings.Contains(texts[found[0]], text(d)) {
			return ""
		}
	}
	if textWith(from, texts) != text(to) {
		return ""
	}
	return want
}

func TestExampleOfMatch(t *testing.T) {
	checkMatch(t, fun(v, v), fun(i, i), "+"+textOf(binds(bind(0, i))))
	checkMatch(t, v, d, "")
}

func TestMatch(t *testing.T) {
	for _, c := range []struct {
		from, to api.Type
		l        []api.Bind
	}{
		{i, i, nil}, {d, d, nil}, {fun(d, list(u)), fun(d, list(u)), nil},
		{v, i, binds(bind(0, i))}, {number(api.MaxVar), s, binds(bind(api.MaxVar, s))},
		{v, pair(list(i), fun(b, u)), binds(bind(0, pair(list(i), fun(b, u))))},
		{list(w), list(list(i)), binds(bind(1, list(i)))},
		{fun(x, v), fun(i, b), binds(bind(2, i), bind(0, b))},
		{pair(pair(number(9), v), number(4)), pair(pair(i, b), s), binds(bind(9, i), bind(0, b), bind(4, s))},
		// A variable several times, with types that are the Same.
		{pair(v, v), pair(i, i), binds(bind(0, i))},
		{fun(w, fun(v, w)), fun(list(u), fun(i, list(u))), binds(bind(1, list(u)), bind(0, i))},
		{pair(v, list(pair(v, v))), pair(pair(s, u), list(pair(pair(s, u), pair(s, u)))), binds(bind(0, pair(s, u)))},
		// Variables on both sides, with the same numbers and with others.
		{v, v, binds(bind(0, v))}, {v, w, binds(bind(0, w))}, {v, list(v), binds(bind(0, list(v)))},
		{pair(v, w), pair(w, v), binds(bind(0, w), bind(1, v))},
		{pair(v, w), pair(w, w), binds(bind(0, w), bind(1, w))},
		{pair(v, w), pair(list(w), fun(v, x)), binds(bind(0, list(w)), bind(1, fun(v, x)))},
		{fun(v, v), fun(pair(v, w), pair(v, w)), binds(bind(0, pair(v, w)))},
		// A ? on both sides.
		{pair(d, v), pair(d, i), binds(bind(0, i))}, {fun(v, list(d)), fun(v, list(d)), binds(bind(0, v))},
	} {
		checkMatch(t, c.from, c.to, "+"+textOf(c.l))
		around(func(put func(t api.Type) api.Type) {
			checkMatch(t, put(c.from), put(c.to), "+"+textOf(c.l))
		})
	}
}

func TestTypesThatDoNotMatch(t *testing.T) {
	for _, c := range [][2]api.Type{
		{i, b}, {i, v}, {list(v), v}, {list(v), w}, {fun(v, i), w},
		{pair(v, w), fun(i, b)}, {pair(v, w), list(i)}, {list(v), fun(i, i)}, {fun(v, w), pair(v, w)}, {fun(v, w), i}, {s, list(s)},
		// A variable several times, with types that are not the Same.
		{pair(v, v), pair(i, b)}, {pair(v, v), pair(v, w)}, {pair(v, v), pair(list(i), list(b))}, {fun(v, v), fun(pair(i, i), fun(i, i))},
		{pair(v, pair(v, v)), pair(i, pair(i, s))}, {pair(v, pair(v, v)), pair(i, pair(s, i))}, {pair(v, pair(v, v)), pair(s, pair(i, i))},
		{fun(v, list(v)), fun(v, v)}, {fun(v, v), fun(v, list(v))}, {pair(pair(v, w), pair(w, v)), pair(pair(i, b), pair(i, b))},
		// A ? on one side, and on both.
		{v, d}, {v, list(d)}, {v, fun(i, pair(b, d))}, {list(v), list(d)}, {i, d}, {d, i}, {d, v}, {d, list(d)}, {list(d), d},
		{list(d), list(i)}, {list(i), list(d)}, {fun(d, i), fun(i, d)}, {pair(v, d), pair(d, d)}, {pair(d, v), pair(d, d)}, {pair(v, v), pair(d, d)},
		{pair(v, v), pair(i, d)}, {pair(v, v), pair(d, i)}, {pair(v, w), pair(i, d)}, {pair(v, w), pair(d, i)}, {pair(v, w), pair(list(d), i)},
	} {
		checkMatch(t, c[0], c[1], "")
		around(func(put func(t api.Type) api.Type) { checkMatch(t, put(c[0]), put(c[1]), "") })
	}
}

func TestMatchOfAllPairsOfSmallTypes(t *testing.T) {
	for _, l := range [][]api.Type{rightTypes(4, i, d, v, w), rightTypes(3, i, b, s, u, d, v, number(api.MaxVar)), rightTypes(5, v, w), largerTypes()} {
		for _, from := range l {
			for _, to := range l {
				checkMatch(t, from, to, wantMatch(from, to))
			}
		}
	}
}

func TestMatchOfTypesThatAreNotRight(t *testing.T) {
	for _, wrong := range wrongTypes() {
		like := []api.Type{wrong, d, i, v, leaf(wrong.Kind), {Kind: wrong.Kind, N: wrong.N}, treeOf(wrong.Kind, i), treeOf(wrong.Kind, i, i), treeOf(wrong.Kind, wrong.Kids...)}
		check := func(one, other api.Type) {
			checkMatch(t, one, other, "")
			checkMatch(t, other, one, "")
		}
		for _, r := range like {
			check(wrong, r)
			around(func(put func(t api.Type) api.Type) {
				check(put(wrong), put(r))
				check(put(wrong), v)
			})
		}
		check(pair(i, wrong), pair(b, wrong))
		check(pair(v, wrong), pair(i, wrong))
		check(pair(v, wrong), v)
		check(fun(wrong, i), fun(v, b))
	}
}

// P11.3: Under.

// checkUnder checks what Under returns.
func checkUnder(t *testing.T, below, above api.Type, want bool) {
	t.Helper()
	if got := Under(below, above); got != want {
		t.Errorf("Under of %s and %s: %v", text(below), text(above), got)
	}
}

// checkUnderAround is checkUnder for two types by themselves and at each place of
// some closed types that are otherwise the same.
func checkUnderAround(t *testing.T, below, above api.Type, want bool) {
	t.Helper()
	checkUnder(t, below, above, want)
	around(func(put func(t api.Type) api.Type) {
		t.Helper()
		checkUnder(t, put(below), put(above), want)
	})
}

func TestExampleOfUnder(t *testing.T) {
	checkUnder(t, fun(v, v), fun(d, i), true)
	checkUnder(t, list(d), list(v), false)
}

func TestUnderOfClosedTypes(t *testing.T) {
	for _, c := range []struct {
		below, above api.Type
		want         bool
	}{
		{i, i, true}, {i, b, false}, {i, d, true}, {d, i, false}, {d, d, true},
		{list(i), d, true}, {d, list(i), false}, {list(i), list(d), true}, {list(d), list(i), false}, {list(d), d, true}, {d, list(d), false},
		{pair(i, d), pair(d, i), false}, {pair(i, i), pair(d, d), true}, {pair(i, b), pair(d, b), true}, {pair(i, d), pair(i, i), false},
		// Unlike in a subtype, the sides do not turn in arguments.
		{fun(i, i), fun(d, i), true}, {fun(d, i), fun(i, i), false}, {fun(fun(i, i), i), fun(fun(d, i), i), true}, {fun(fun(d, i), i), fun(fun(i, i), i), false},
		{fun(i, i), pair(i, i), false}, {pair(i, i), fun(i, i), false}, {list(i), i, false}, {list(i), pair(i, i), false}, {fun(i, i), list(i), false},
	} {
		checkUnderAround(t, c.below, c.above, c.want)
	}
}

func TestUnderWithAVariableBelow(t *testing.T) {
	for _, r := range append(rightTypes(4, i, d, v, w), largerTypes()...) {
		// It stands for a static type, which has anything in place of a ?.
		checkUnder(t, w, r, true)
		checkUnder(t, number(api.MaxVar), r, true)
		checkUnder(t, list(v), list(r), true)
		checkUnder(t, fun(v, i), fun(r, d), true)
		checkUnder(t, pair(v, x), pair(r, r), true)
	}
	checkUnderAround(t, v, fun(d, pair(list(d), d)), true)
	checkUnderAround(t, v, d, true)
	checkUnderAround(t, v, list(v), true)
}

func TestUnderWithAVariableAbove(t *testing.T) {
	for _, r := range append(rightTypes(4, i, d, v, w), largerTypes()...) {
		// It stands for a static type, below which there is no other one.
		want := typ.Static(r)
		checkUnder(t, r, w, want)
		checkUnder(t, r, number(api.MaxVar), want)
		checkUnder(t, list(r), list(v), want)
		checkUnder(t, fun(r, i), fun(v, d), want)
		checkUnder(t, pair(r, r), pair(v, x), want)
	}
	checkUnderAround(t, d, v, false)
	checkUnderAround(t, fun(i, pair(b, d)), v, false)
	checkUnderAround(t, list(v), v, true)
}

func TestUnderWithDyn(t *testing.T) {
	for _, r := range append(rightTypes(4, i, d, v, w), largerTypes()...) {
		checkUnder(t, r, d, true)
		checkUnder(t, d, r, r.Kind == api.TDyn)
		checkUnder(t, list(r), list(d), true)
		checkUnder(t, list(d), list(r), r.Kind == api.TDyn)
		checkUnder(t, pair(v, r), pair(i, d), true)
		checkUnder(t, fun(r, v), fun(d, w), true)
	}
	for _, c := range []struct {
		below, above api.Type
		want         bool
	}{
		// Each ? above is there for another type.
		{pair(v, v), pair(d, d), true}, {pair(v, v), pair(d, i), true}, {pair(v, v), pair(i, d), true}, {pair(i, b), pair(d, d), true},
		{pair(v, v), pair(list(d), list(i)), true}, {pair(v, v), pair(list(d), i), false}, {pair(v, v), pair(pair(i, d), pair(d, b)), true},
		{pair(v, v), pair(pair(i, d), pair(b, d)), false}, {pair(v, pair(v, v)), pair(pair(d, d), pair(pair(i, d), pair(d, b))), true},
		{pair(v, pair(v, v)), pair(list(d), pair(list(i), list(b))), false}, {pair(v, pair(v, v)), pair(list(i), pair(list(d), list(b))), false},
		{pair(v, v), pair(pair(d, d), pair(i, b)), true}, {pair(v, v), pair(pair(d, i), pair(fun(i, d), w)), true},
		{pair(v, v), pair(list(d), list(w)), true}, {pair(v, pair(v, v)), pair(list(d), pair(list(w), list(i))), true},
		// What is below a ? above stands for nothing.
		{pair(fun(d, i), v), pair(d, d), true}, {pair(fun(d, i), v), pair(v, d), false}, {pair(list(v), v), pair(d, i), true},
		{pair(v, list(v)), pair(d, v), true}, {pair(fun(v, d), v), pair(d, list(w)), true}, {pair(fun(d, v), v), pair(fun(d, d), w), true},
		{pair(fun(d, v), v), pair(fun(d, b), i), false}, {pair(fun(d, v), v), pair(fun(d, i), i), true},
		// A ? in part of what stands for a variable.
		{pair(list(d), i), pair(v, i), false}, {pair(i, list(d)), pair(v, w), false}, {pair(v, list(d)), pair(i, list(w)), false}, {fun(list(fun(i, d)), i), fun(list(w), i), false},
	} {
		checkUnderAround(t, c.below, c.above, c.want)
	}
}

func TestUnderWithANumberInBoth(t *testing.T) {
	for _, c := range []struct {
		below, above api.Type
		want         bool
	}{
		{v, v, true}, {v, w, true}, {w, v, true}, {list(v), v, true}, {v, list(v), true}, {fun(v, w), fun(w, v), true},
		{pair(v, v), pair(v, w), true}, {pair(v, w), pair(v, v), true}, {pair(v, i), pair(i, v), true}, {pair(v, i), pair(b, v), true}, {pair(v, v), pair(i, v), true},
		{pair(v, w), pair(w, list(v)), true}, {pair(v, w), pair(v, list(v)), true}, {pair(v, list(v)), pair(v, v), false}, {pair(list(v), v), pair(w, list(w)), false},
		{pair(v, pair(w, w)), pair(i, pair(v, v)), true}, {pair(v, pair(i, b)), pair(b, pair(v, w)), true}, {pair(v, pair(i, b)), pair(b, pair(v, v)), false},
		{pair(v, pair(v, v)), pair(w, pair(v, i)), true}, {pair(v, pair(v, b)), pair(w, pair(i, w)), false},
	} {
		checkUnderAround(t, c.below, c.above, c.want)
	}
}

func TestUnderWithAVariableSeveralTimes(t *testing.T) {
	for _, c := range []struct {
		below, above api.Type
		want         bool
	}{
		{pair(v, v), pair(i, i), true}, {pair(v, v), pair(i, b), false}, {pair(i, i), pair(v, v), true}, {pair(i, b), pair(v, v), false},
		{fun(v, v), fun(list(i), list(i)), true}, {fun(v, v), fun(list(i), list(b)), false}, {fun(v, v), fun(pair(i, i), fun(i, i)), false},
		{fun(list(i), list(w)), fun(v, v), true}, {fun(list(i), i), fun(v, v), false}, {fun(list(w), list(list(w))), fun(v, v), false},
		// By way of another variable.
		{pair(v, pair(v, i)), pair(w, pair(list(x), w)), false}, {pair(v, pair(v, i)), pair(w, pair(x, x)), true}, {pair(v, pair(v, b)), pair(w, pair(i, w)), false},
		{pair(v, pair(w, pair(v, w))), pair(v, pair(w, pair(w, i))), true}, {pair(v, pair(w, pair(v, w))), pair(b, pair(w, pair(w, i))), false},
		{pair(list(v), pair(v, v)), pair(w, pair(i, d)), true}, {pair(pair(v, w), pair(v, w)), pair(x, pair(i, b)), true}, {pair(pair(v, w), pair(i, b)), pair(x, x), true},
		{pair(pair(v, v), pair(i, b)), pair(x, x), false}, {pair(pair(v, i), pair(b, w)), pair(x, x), true}, {pair(pair(v, i), pair(b, v)), pair(x, x), false},
		{pair(v, pair(w, pair(v, w))), pair(list(v), pair(list(w), pair(x, x))), true}, {pair(v, pair(w, pair(v, w))), pair(list(i), pair(list(b), pair(x, x))), false},
		// A type that would be part of itself.
		{pair(v, v), pair(w, list(w)), false}, {pair(v, list(v)), pair(w, w), false}, {pair(v, w), pair(list(v), pair(v, v)), true},
		{pair(v, list(v)), pair(list(w), w), false}, {pair(v, pair(w, list(v))), pair(list(v), pair(v, v)), false},
		{pair(v, pair(w, pair(v, w))), pair(list(v), pair(list(w), pair(w, x))), true}, {pair(v, pair(w, pair(v, w))), pair(list(v), pair(list(w), pair(w, v))), false},
		{pair(v, pair(v, v)), pair(fun(w, i), pair(fun(d, x), w)), false}, {pair(v, pair(v, v)), pair(fun(w, i), pair(fun(d, x), d)), true},
		{pair(v, v), pair(list(w), list(list(w))), false}, {pair(v, v), pair(list(d), list(list(w))), true},
	} {
		checkUnderAround(t, c.below, c.above, c.want)
	}
}

// apart returns t with other numbers, of which the rest by 3 is given, and with
// another variable, whose rest is 2, for each ? if they are counted.
func apart(t api.Type, rest int, dyns *int) api.Type {
	switch {
	case t.Kind == api.TVar:
		return number(3*t.N + rest)
	case t.Kind == api.TDyn && dyns != nil:
		*dyns++
		return number(3**dyns + 2)
	}
	var kids []api.Type
	for _, kid := range t.Kids {
		kids = append(kids, apart(kid, rest, dyns))
	}
	t.Kids = kids
	return t
}

// put returns t with another type for a variable.
func put(t api.Type, n int, other api.Type) api.Type {
	if t.Kind == api.TVar && t.N == n {
		return other
	}
	var kids []api.Type
	for _, kid := range t.Kids {
		kids = append(kids, put(kid, n, other))
	}
	t.Kids = kids
	return t
}

// solve returns types for variables of two types with which these are the Same,
// if there are any. It replaces one variable after the other one.
func solve(one, other api.Type) (map[int]api.Type, bool) {
	solved := map[int]api.Type{}
	open := [][2]api.Type{{one, other}}
	for len(open) > 0 {
		p, q := open[0][0], open[0][1]
		open = open[1:]
		if q.Kind == api.TVar {
			p, q = q, p
		}
		switch {
		case text(p) == text(q):
		case p.Kind == api.TVar && strings.Contains(text(q), text(p)):
			return nil, false
		case p.Kind == api.TVar:
			for k, pair := range open {
				open[k] = [2]api.Type{put(pair[0], p.N, q), put(pair[1], p.N, q)}
			}
			for n, t := range solved {
				solved[n] = put(t, p.N, q)
			}
			solved[p.N] = q
		case p.Kind != q.Kind:
			return nil, false
		}
		if p.Kind == q.Kind {
			for k := range p.Kids {
				open = append(open, [2]api.Type{p.Kids[k], q.Kids[k]})
			}
		}
	}
	return solved, true
}

// wantUnder is what checkUnder wants for right types. It looks for types that
// make them the Same, where a ? above may be anything and a ? below is a leaf as
// others are, but is in nothing that stands for a variable.
func wantUnder(t *testing.T, below, above api.Type) bool {
	t.Helper()
	dyns := 0
	solved, ok := solve(apart(below, 0, nil), apart(above, 1, &dyns))
	for n, r := range solved {
		ok = ok && (n%3 == 2 || typ.Static(r))
	}
	if ok {
		checkWitness(t, below, above, solved)
	}
	return ok
}

// checkWitness checks with what was solved that there are such types as Under
// asks for.
func checkWitness(t *testing.T, below, above api.Type, solved map[int]api.Type) {
	t.Helper()
	bindsOf := func(r api.Type, rest int) []api.Bind {
		var l []api.Bind
		for _, n := range typ.Vars(r) {
			found, ok := solved[3*n+rest]
			if !ok {
				found = i
			}
			for _, free := range typ.Vars(found) {
				found = put(found, free, i)
			}
			if !typ.Static(found) || !typ.Closed(found) {
				t.Errorf("%s is for a variable", text(found))
			}
			l = append(l, bind(n, found))
		}
		return l
	}
	low, _ := Subst(below, bindsOf(below, 0))
	high, _ := Subst(above, bindsOf(above, 1))
	if !prec.Below(low, high) {
		t.Errorf("%s is not below %s", text(low), text(high))
	}
}

// checkAny checks Under and Match in both orders, for any two types.
func checkAny(t *testing.T, one, other api.Type) {
	t.Helper()
	for range 2 {
		if typ.Check(one) == api.OK && typ.Check(other) == api.OK {
			checkUnder(t, one, other, wantUnder(t, one, other))
			checkMatch(t, one, other, wantMatch(one, other))
		} else {
			checkUnder(t, one, other, false)
			checkMatch(t, one, other, "")
		}
		one, other = other, one
	}
}

func TestUnderOfAllPairsOfSmallTypes(t *testing.T) {
	for _, l := range [][]api.Type{rightTypes(4, i, d, v, w), rightTypes(3, i, b, s, u, d, v, number(api.MaxVar)), rightTypes(5, v, d), largerTypes()} {
		for _, below := range l {
			for _, above := range l {
				checkUnder(t, below, above, wantUnder(t, below, above))
			}
		}
	}
}

// instances are what t is with each of some types for each of its variables.
func instances(t api.Type, types []api.Type) []api.Type {
	l := []api.Type{t}
	for _, n := range typ.Vars(t) {
		var next []api.Type
		for _, r := range l {
			for _, other := range types {
				next = append(next, put(r, n, other))
			}
		}
		l = next
	}
	return l
}

// That there are such types is tried out here: for types as small as these, ever
// smaller ones would do.
func TestUnderByInstances(t *testing.T) {
	static := rightTypes(4, i)
	types := rightTypes(4, i, d, v, w)
	var all [][]api.Type
	for _, r := range types {
		all = append(all, instances(r, static))
	}
	for k, below := range types {
		for j, above := range types {
			want := slices.ContainsFunc(all[k], func(low api.Type) bool {
				return slices.ContainsFunc(all[j], func(high api.Type) bool { return prec.Below(low, high) })
			})
			checkUnder(t, below, above, want)
		}
	}
}

func TestUnderOfTypesThatAreNotRight(t *testing.T) {
	for _, wrong := range wrongTypes() {
		like := []api.Type{wrong, d, i, v, leaf(wrong.Kind), {Kind: wrong.Kind, N: wrong.N}, treeOf(wrong.Kind, i), treeOf(wrong.Kind, d, d), treeOf(wrong.Kind, wrong.Kids...)}
		check := func(one, other api.Type) {
			checkUnder(t, one, other, false)
			checkUnder(t, other, one, false)
		}
		for _, r := range like {
			check(wrong, r)
			around(func(put func(t api.Type) api.Type) {
				check(put(wrong), put(r))
				check(put(wrong), d)
				check(put(wrong), v)
			})
		}
		check(pair(i, wrong), pair(b, wrong))
		check(pair(i, wrong), pair(d, d))
		check(fun(wrong, i), fun(v, b))
	}
}

func TestOneChange(t *testing.T) {
	for _, r := range append(largerTypes(), i, d, v) {
		changes(r, func(one api.Type) { checkAny(t, r, one) })
	}
	for _, r := range largerTypes()[:2] {
		changes(r, func(one api.Type) {
			changes(one, func(two api.Type) { checkAny(t, r, two) })
		})
	}
}

// P11.4: what follows.

// checkInstance checks that what Match finds makes one type an instance of the
// other one.
func checkInstance(t *testing.T, from, to api.Type) {
	t.Helper()
	l, ok := Match(from, to)
	if !ok {
		return
	}
	if got, e := Subst(from, l); text(got) != text(to) || e != api.OK {
		t.Errorf("Match of %s and %s: %s, which makes %s, %v", text(from), text(to), textOf(l), text(got), e)
	}
	numbers := typ.Vars(from)
	for k, one := range l {
		if !typ.Static(one.Type) || len(l) != len(numbers) || one.Var != numbers[k] {
			t.Errorf("Match of %s and %s: %s", text(from), text(to), textOf(l))
		}
	}
}

func TestWhatMatchesIsAnInstance(t *testing.T) {
	for _, l := range [][]api.Type{rightTypes(4, i, d, v, w), rightTypes(3, i, b, s, u, d, v, number(api.MaxVar)), wrongTypes()} {
		for _, from := range l {
			for _, to := range l {
				checkInstance(t, from, to)
			}
		}
	}
	for _, from := range largerTypes() {
		changes(from, func(to api.Type) {
			checkInstance(t, from, to)
			checkInstance(t, to, from)
		})
	}
}

func TestAnInstanceMatches(t *testing.T) {
	types := rightTypes(3, i, v, w, x)
	for _, from := range append(rightTypes(4, i, d, v, w), largerTypes()...) {
		for k, r := range types {
			l := binds(bind(0, r), bind(1, types[(5*k+1)%len(types)]), bind(2, types[(11*k+2)%len(types)]))
			to, _ := Subst(from, l)
			want := "+"
			for _, n := range typ.Vars(from) {
				want += textOf(l[n : n+1])
			}
			checkMatch(t, from, to, want)
			checkInstance(t, from, to)
			// A variable may stand for what matched it.
			checkUnder(t, from, to, true)
		}
	}
}

// A type matches what Canon makes of it and the other way round.
func TestCanonMatches(t *testing.T) {
	for _, from := range append(rightTypes(4, i, v, w), largerTypes()...) {
		to, _ := Canon(from)
		for range 2 {
			if _, ok := Match(from, to); !ok {
				t.Errorf("%s and %s do not match", text(from), text(to))
			}
			checkInstance(t, from, to)
			from, to = to, from
		}
	}
}

// The rules: every call ends, arguments stay as they are, results hang on them only.

// chain returns t below so many nodes, one by one.
func chain(depth int, down func(t api.Type) api.Type, t api.Type) api.Type {
	for range depth {
		t = down(t)
	}
	return t
}

// checkLarge checks Match and Under of types whose texts are too long. A want of
// nil means that they do not match.
func checkLarge(t *testing.T, one, other api.Type, want []api.Bind, under bool) {
	t.Helper()
	l, ok := Match(one, other)
	same := slices.EqualFunc(l, want, func(p, q api.Bind) bool { return p.Var == q.Var && typ.Same(p.Type, q.Type) })
	if ok != (want != nil) || !same {
		t.Error("another match", ok)
	}
	if Under(one, other) != under {
		t.Error("not", under)
	}
}

// downs are ways to a type from one that is deeper by one.
func downs() []func(t api.Type) api.Type {
	return []func(t api.Type) api.Type{
		list,
		func(t api.Type) api.Type { return pair(t, u) },
		func(t api.Type) api.Type { return pair(i, t) },
		func(t api.Type) api.Type { return fun(t, list(i)) },
		func(t api.Type) api.Type { return fun(s, t) },
	}
}

// noDeepCalls makes functions that call themselves for each kid run out of stack,
// until what it returns is called.
func noDeepCalls() func() {
	before := debug.SetMaxStack(2 << 20)
	return func() { debug.SetMaxStack(before) }
}

const depth = 1 << 15

func TestTypesThatAreDeep(t *testing.T) {
	defer noDeepCalls()()
	none := []api.Bind{}
	for _, down := range downs() {
		build := func(t api.Type) api.Type { return chain(depth, down, t) }
		checkLarge(t, build(i), build(i), none, true)
		checkLarge(t, build(d), build(d), none, true)
		checkLarge(t, build(i), build(b), nil, false)
		checkLarge(t, build(i), build(d), nil, true)
		checkLarge(t, build(d), build(i), nil, false)
		checkLarge(t, build(i), d, nil, true)
		checkLarge(t, build(v), build(i), binds(bind(0, i)), true)
		checkLarge(t, build(v), build(d), nil, true)
		checkLarge(t, build(v), build(build(i)), binds(bind(0, build(i))), true)
		checkLarge(t, build(v), build(build(d)), nil, true)
		checkLarge(t, v, build(build(w)), binds(bind(0, build(build(w)))), true)
		checkLarge(t, build(i), v, nil, true)
		checkLarge(t, build(d), v, nil, false)
		checkLarge(t, build(build(d)), build(v), nil, false)
		checkLarge(t, build(w), build(list(v)), binds(bind(1, list(v))), true)
		checkLarge(t, build(i), chain(depth+1, down, i), nil, false)
		checkLarge(t, build(api.Type{}), build(api.Type{}), nil, false)
		checkLarge(t, build(number(-1)), d, nil, false)
		checkLarge(t, v, build(number(-1)), nil, false)
	}
}

func TestVariablesForTypesThatAreDeep(t *testing.T) {
	defer noDeepCalls()()
	for _, down := range downs() {
		build := func(t api.Type) api.Type { return chain(depth, down, t) }
		checkLarge(t, pair(v, v), pair(build(i), build(i)), binds(bind(0, build(i))), true)
		checkLarge(t, pair(v, v), pair(build(i), build(b)), nil, false)
		checkLarge(t, pair(v, v), pair(build(i), build(d)), nil, true)
		checkLarge(t, pair(v, v), pair(build(d), build(i)), nil, true)
		checkLarge(t, pair(v, v), pair(build(d), build(d)), nil, true)
		checkLarge(t, pair(v, pair(v, v)), pair(build(i), pair(build(d), build(b))), nil, false)
		checkLarge(t, pair(build(i), build(b)), pair(v, v), nil, false)
		checkLarge(t, pair(v, v), pair(build(w), build(list(i))), nil, true)
		checkLarge(t, pair(v, v), pair(build(w), w), nil, false)
		checkLarge(t, pair(v, v), pair(w, build(w)), nil, false)
		checkLarge(t, pair(build(v), v), pair(w, w), nil, false)
		checkLarge(t, pair(v, v), pair(w, build(x)), nil, true)
	}
}

func TestSubstAndCanonOfTypesThatAreDeep(t *testing.T) {
	defer noDeepCalls()()
	for _, down := range downs() {
		build := func(t api.Type) api.Type { return chain(depth, down, t) }
		for _, c := range []struct {
			from, want api.Type
			l          []api.Bind
		}{
			{build(i), build(i), nil},
			{build(v), build(v), binds(bind(1, i))},
			{build(v), build(fun(v, d)), binds(bind(0, fun(v, d)))},
			{build(w), build(build(w)), binds(bind(0, i), bind(1, build(w)))},
			{pair(v, fun(i, v)), pair(build(d), fun(i, build(d))), binds(bind(0, build(d)))},
		} {
			if got, e := Subst(c.from, c.l); !typ.Same(got, c.want) || e != api.OK {
				t.Error(e)
			}
		}
		if got, e := Canon(build(pair(x, pair(w, x)))); !typ.Same(got, build(pair(v, pair(w, v)))) || e != api.OK {
			t.Error(e)
		}
		wrong := build(leaf(api.TList))
		_, wrongType := Subst(wrong, nil)
		_, wrongBind := Subst(i, binds(bind(0, wrong)))
		_, wrongCanon := Canon(wrong)
		if wrongType != api.ErrArg || wrongBind != api.ErrArg || wrongCanon != api.ErrArg {
			t.Error(wrongType, wrongBind, wrongCanon)
		}
	}
}

func TestWrongTypesThatAreWide(t *testing.T) {
	kids := slices.Repeat([]api.Type{v}, 1<<16)
	for kind := range 11 {
		r := treeOf(kind, kids...)
		checkLarge(t, r, r, nil, false)
		checkLarge(t, r, d, nil, false)
		checkLarge(t, v, list(r), nil, false)
		if _, e := Canon(r); e != api.ErrArg {
			t.Error(kind, e)
		}
		if _, e := Subst(list(r), binds(bind(0, i))); e != api.ErrArg {
			t.Error(kind, e)
		}
	}
}

// equations returns two types for which Under is true if there are types for the
// variables that make each first one below its second one.
func equations(l ...[2]api.Type) (below, above api.Type) {
	below, above = i, i
	for _, one := range l {
		below, above = pair(below, one[0]), pair(above, one[1])
	}
	return below, above
}

// checkEquations checks Under for equations in their order, in reverse, and with
// every second one ahead of the others.
func checkEquations(t *testing.T, want bool, l ...[2]api.Type) {
	t.Helper()
	var mixed [][2]api.Type
	for k := range l {
		mixed = append(mixed, l[(2*k)%len(l)+(1-len(l)%2)*(2*k/len(l))])
	}
	for range 2 {
		if Under(equations(l...)) != want || Under(equations(mixed...)) != want {
			t.Error("not", want)
		}
		slices.Reverse(l)
	}
}

func TestManyVariablesOfOneType(t *testing.T) {
	// 0 below is 0 above is 1 below is 1 above, and so on.
	var l [][2]api.Type
	for k := range 1 << 14 {
		l = append(l, [2]api.Type{number(k), number(k)}, [2]api.Type{number(k + 1), number(k)})
	}
	first, last := [2]api.Type{v, i}, number(1<<14)
	checkEquations(t, true, l...)
	checkEquations(t, true, append(l, first)...)
	checkEquations(t, true, append(l, first, [2]api.Type{last, i})...)
	checkEquations(t, true, append(l, first, [2]api.Type{last, d})...)
	checkEquations(t, false, append(l, first, [2]api.Type{last, b})...)
	checkEquations(t, false, append(l, [2]api.Type{last, list(v)})...)
}

func TestOneVariableThatIsManyOthers(t *testing.T) {
	const most = 1 << 15
	var l [][2]api.Type
	for k := range most {
		l = append(l, [2]api.Type{v, number(k)})
	}
	first, last := [2]api.Type{b, number(0)}, number(most-1)
	checkEquations(t, true, append(l, first, [2]api.Type{b, last})...)
	checkEquations(t, false, append(l, first, [2]api.Type{i, last})...)
	for k := range l {
		l[k] = [2]api.Type{number(k), v}
	}
	first = [2]api.Type{number(0), b}
	checkEquations(t, true, append(l, first, [2]api.Type{last, b})...)
	checkEquations(t, false, append(l, first, [2]api.Type{last, i})...)
}

func TestRingsOfVariables(t *testing.T) {
	// 0 below is a list of 0 above, which is a list of 1 below, and so on.
	var l [][2]api.Type
	for k := range 1 << 14 {
		l = append(l, [2]api.Type{number(k), list(number(k))}, [2]api.Type{list(number(k + 1)), number(k)})
	}
	last := number(1 << 14)
	checkEquations(t, true, l...)
	checkEquations(t, true, append(l, [2]api.Type{last, i})...)
	checkEquations(t, true, append(l, [2]api.Type{last, d})...)
	checkEquations(t, true, append(l, [2]api.Type{v, list(d)})...)
	checkEquations(t, false, append(l, [2]api.Type{v, i})...)
	checkEquations(t, false, append(l, [2]api.Type{last, v})...)
	checkEquations(t, false, append(l, [2]api.Type{last, number(1)})...)
}

func TestVariablesForTypesBeyondAllBounds(t *testing.T) {
	// Each is a pair of twice the next one of the other type.
	const most = 200
	var l [][2]api.Type
	for k := range most {
		next := pair(number(k+1), number(k+1))
		l = append(l, [2]api.Type{number(k), next}, [2]api.Type{next, number(k)})
	}
	same, last := [2]api.Type{v, v}, number(most)
	checkEquations(t, true, append(l, same)...)
	checkEquations(t, true, append(l, same, [2]api.Type{last, i}, [2]api.Type{i, last})...)
	checkEquations(t, false, append(l, same, [2]api.Type{last, i}, [2]api.Type{b, last})...)
	checkEquations(t, true, append(l, [2]api.Type{last, i}, [2]api.Type{b, last})...)
	checkEquations(t, false, append(l, same, [2]api.Type{last, v})...)
}

// Parts of two types are the same by many ways, each of them as long as the types.
func TestPartsThatAreTheSameAgainAndAgain(t *testing.T) {
	const most = 1 << 14
	build := func(t api.Type) api.Type { return chain(most, list, t) }
	for _, c := range []struct {
		one, other api.Type
		want       bool
	}{{i, i, true}, {i, d, true}, {b, i, false}, {number(api.MaxVar), i, true}} {
		// Number k is what number 0 is below k lists, for two such rows of numbers.
		l := [][2]api.Type{{v, build(c.one)}, {number(most), build(c.other)}}
		for k := range most - 1 {
			l = append(l, [2]api.Type{number(k), number(k)}, [2]api.Type{number(k), list(number(k + 1))},
				[2]api.Type{number(most + k), number(most + k)}, [2]api.Type{number(most + k), list(number(most + k + 1))})
		}
		for k := range most - 1 {
			l = append(l, [2]api.Type{number(k), number(most + k)})
		}
		checkEquations(t, c.want, l...)
	}
}

func TestAllNumbers(t *testing.T) {
	up, down := i, i
	var l []api.Bind
	for k := range api.MaxVar + 1 {
		up, down = pair(up, number(k)), pair(down, number(api.MaxVar-k))
		l = append(l, bind(k, number(api.MaxVar-k)))
	}
	if got, e := Canon(down); !typ.Same(got, up) || e != api.OK {
		t.Error("another canonical type", e)
	}
	if got, e := Subst(up, l); !typ.Same(got, down) || e != api.OK {
		t.Error("another substitution", e)
	}
}

func TestManyVariables(t *testing.T) {
	const most = 1 << 15
	below, above := i, i
	var l []api.Bind
	for k := range most {
		below, above = pair(number(k), below), pair(list(number(k/2)), above)
		l = append(l, bind(most-1-k, list(number((most-1-k)/2))))
	}
	checkLarge(t, below, above, l, true)
	checkLarge(t, above, below, nil, true)
	checkLarge(t, pair(below, v), pair(above, i), nil, false)
}

func TestSharedParts(t *testing.T) {
	build := func(t api.Type) api.Type {
		for k := range 16 {
			t = treeOf([]int{api.TPair, api.TFun}[k%2], t, t)
		}
		return t
	}
	none := []api.Bind{}
	checkLarge(t, build(i), build(i), none, true)
	checkLarge(t, build(v), build(i), binds(bind(0, i)), true)
	checkLarge(t, build(i), build(v), nil, true)
	checkLarge(t, build(v), build(d), nil, true)
	checkLarge(t, build(v), build(list(d)), nil, true)
	checkLarge(t, pair(v, v), pair(build(d), build(d)), nil, true)
	checkLarge(t, pair(v, v), pair(build(i), build(d)), nil, true)
	checkLarge(t, pair(v, w), pair(build(v), build(v)), binds(bind(0, build(v)), bind(1, build(v))), true)
	// One place differs from all others that the same part has.
	r := build(i)
	r.Kids = []api.Type{r.Kids[0], build(b).Kids[1]}
	checkLarge(t, build(v), r, nil, false)
	checkLarge(t, r, build(v), nil, false)
	checkLarge(t, r, build(d), nil, true)
	// Each ? is there for another type, also if it is the same memory.
	dyns := pair(d, d)
	checkUnder(t, pair(v, v), pair(pair(dyns, dyns), pair(pair(i, b), pair(s, u))), true)
	checkUnder(t, pair(v, pair(v, v)), pair(pair(dyns, dyns), pair(pair(pair(i, b), d), pair(d, pair(s, u)))), true)
	// A type beside a part of itself.
	self := pair(pair(v, v), pair(v, v))
	checkMatch(t, self.Kids[0], self, "+"+textOf(binds(bind(0, self.Kids[0]))))
	checkMatch(t, self, self.Kids[0], "")
	checkUnder(t, self, self.Kids[0], true)
	checkSubst(t, self, binds(bind(0, self.Kids[0])), wantSubst(self, binds(bind(0, self.Kids[0]))))
}

// spare returns t with two further types behind each list of kids.
func spare(t api.Type) api.Type {
	l := make([]api.Type, 0, len(t.Kids)+2)
	for _, kid := range t.Kids {
		l = append(l, spare(kid))
	}
	t.Kids = append(l, v, number(-9))[:len(t.Kids)]
	return t
}

// whole is the text of t with what lies behind its lists of kids.
func whole(t api.Type) string {
	s := fmt.Sprintf("<%d.%d %d %d", t.Kind, t.N, len(t.Kids), cap(t.Kids))
	for _, kid := range t.Kids[:cap(t.Kids)] {
		s += whole(kid)
	}
	return s + ">"
}

func wholeBinds(l []api.Bind) string {
	s := fmt.Sprint(len(l), cap(l))
	for _, one := range l[:cap(l)] {
		s += fmt.Sprint(" ", one.Var, whole(one.Type))
	}
	return s
}

func TestArgumentsAreNotChanged(t *testing.T) {
	types := append(rightTypes(4, i, d, v, w), wrongTypes()...)
	for k := 0; k < len(types); k += 3 {
		one := spare(types[k])
		wholeOne := whole(one)
		Canon(one)
		for j := 0; j < len(types); j += 2 {
			other := spare(types[j])
			l := append(make([]api.Bind, 0, 4), bind(0, other), bind(1, list(other)), bind(0, one), bind(-5, d))[:2+k%2]
			wholeOther, wholeL := whole(other), wholeBinds(l)
			checkAny(t, one, other)
			if typ.Check(one) == api.OK && typ.Check(other) == api.OK {
				checkSubst(t, one, l, wantSubst(one, l))
			} else {
				checkSubst(t, one, l, "")
			}
			if whole(one) != wholeOne || whole(other) != wholeOther || wholeBinds(l) != wholeL {
				t.Fatalf("%s, %s or the binds are changed", text(types[k]), text(types[j]))
			}
		}
	}
}

func TestArgumentsThatShareMemory(t *testing.T) {
	// The kids of one type lie behind those of another one.
	memory := []api.Type{v, w, list(v), fun(w, i)}
	one := api.Type{Kind: api.TPair, Kids: memory[:2]}
	other := api.Type{Kind: api.TPair, Kids: memory[1:3]}
	last := api.Type{Kind: api.TPair, Kids: memory[2:4]}
	before := fmt.Sprint(memory)
	l := binds(bind(0, other), bind(1, last))
	checkSubst(t, one, l, text(pair(other, last)))
	checkSubst(t, pair(one, other), l, wantSubst(pair(one, other), l))
	checkSubst(t, last, binds(bind(0, last), bind(1, one)), wantSubst(last, binds(bind(0, last), bind(1, one))))
	checkCanon(t, last, text(pair(list(v), fun(w, i))))
	checkCanon(t, other, text(pair(v, list(w))))
	checkAny(t, one, other)
	checkAny(t, other, last)
	checkAny(t, pair(one, other), pair(other, last))
	if fmt.Sprint(memory) != before {
		t.Error("changed")
	}
}

func TestNilAndEmptyLists(t *testing.T) {
	for _, r := range []api.Type{i, b, s, u, d, v} {
		empty := api.Type{Kind: r.Kind, N: r.N, Kids: []api.Type{}}
		for _, put := range []func(t api.Type) api.Type{list, func(t api.Type) api.Type { return fun(t, t) }} {
			checkAny(t, r, empty)
			checkAny(t, put(r), put(empty))
			checkAny(t, pair(v, v), pair(put(r), put(empty)))
			checkSubst(t, put(empty), nil, text(put(r)))
			checkSubst(t, put(empty), binds(bind(0, i)), wantSubst(put(r), binds(bind(0, i))))
			checkSubst(t, v, binds(bind(0, empty)), text(r))
			checkCanon(t, put(empty), text(put(r)))
		}
	}
	for _, kind := range []int{api.TPair, api.TFun, api.TList} {
		empty := api.Type{Kind: kind, Kids: []api.Type{}}
		checkAny(t, empty, leaf(kind))
		checkAny(t, v, empty)
		checkSubst(t, empty, []api.Bind{}, "")
		checkCanon(t, empty, "")
	}
}

func TestResultsDoNotHangOnEarlierCalls(t *testing.T) {
	r := fun(list(v), pair(w, v))
	first, _ := Subst(r, binds(bind(0, list(x)), bind(1, i)))
	before := text(first)
	for range 3 {
		checkSubst(t, r, binds(bind(1, u)), text(fun(list(v), pair(u, v))))
		checkSubst(t, r, nil, text(r))
		checkSubst(t, r, binds(bind(0, i), bind(-1, i)), "")
		checkSubst(t, first, binds(bind(2, d)), text(fun(list(list(d)), pair(i, list(d)))))
		checkCanon(t, first, text(fun(list(list(v)), pair(i, list(v)))))
		checkMatch(t, r, first, "+"+textOf(binds(bind(0, list(x)), bind(1, i))))
		checkMatch(t, r, fun(list(i), pair(w, b)), "")
		checkMatch(t, r, fun(list(b), pair(w, b)), "+"+textOf(binds(bind(0, b), bind(1, w))))
		checkUnder(t, r, first, true)
		checkUnder(t, pair(r, v), pair(first, i), false)
		checkUnder(t, pair(r, v), pair(d, i), true)
	}
	if text(first) != before {
		t.Error("an earlier result is changed")
	}
}

// fuzzed builds a type from bytes: a kind, and how far it is from a right one.
func fuzzed(b *[]byte, depth int) api.Type {
	if len(*b) == 0 {
		return v
	}
	head := int((*b)[0])
	*b = (*b)[1:]
	r := leaf(head%10 + head/250)
	kids := 0
	switch {
	case r.Kind == api.TVar:
		r.N = head / 10 % 4
	case r.Kind == api.TList:
		kids = 1
	case r.Kind == api.TPair || r.Kind == api.TFun:
		kids = 2
	}
	if head > 240 {
		r.N, kids = head%3-1, head%4
	}
	if depth == 0 {
		return r
	}
	for range kids {
		r.Kids = append(r.Kids, fuzzed(b, depth-1))
	}
	return r
}

// rougher returns t with a ? at each node whose bit is set, counted in the order
// of the tree, and a variable at each node whose bit is set behind these.
func rougher(t api.Type, bits *uint64) api.Type {
	here := *bits & 3
	*bits >>= 2
	switch here {
	case 1:
		return d
	case 2:
		return number(int(*bits & 3))
	}
	var kids []api.Type
	for _, kid := range t.Kids {
		kids = append(kids, rougher(kid, bits))
	}
	t.Kids = kids
	return t
}

func FuzzScheme(f *testing.F) {
	f.Add([]byte{9, 1, 5}, []byte{9, 5, 2}, uint64(2), uint64(4))
	f.Add([]byte{7, 6, 6}, []byte{7, 8, 8, 1, 6}, uint64(0), uint64(1))
	f.Add([]byte{9, 7, 5, 16, 8, 5}, []byte{9, 7, 4, 16, 5}, uint64(1<<8), uint64(6))
	f.Add([]byte{6}, []byte{9, 7, 1, 2, 8, 6}, uint64(1), uint64(0))
	f.Add([]byte{9, 9, 1, 9, 2, 3}, []byte{9, 9, 5, 9, 2, 5}, uint64(4), uint64(40))
	f.Add([]byte{7, 1, 241}, []byte{7, 1, 5}, uint64(4), uint64(2))
	f.Fuzz(func(t *testing.T, a, b []byte, bits, more uint64) {
		one, other := fuzzed(&a, 6), fuzzed(&b, 6)
		for _, c := range [][2]api.Type{{one, other}, {one, one}, {v, other}, {rougher(one, &bits), rougher(one, &more)}, {pair(one, one), pair(rougher(one, &more), other)}} {
			checkAny(t, c[0], c[1])
			checkInstance(t, c[0], c[1])
			l := binds(bind(1, c[1]), bind(0, c[0]), bind(3, i), bind(1, v))
			if typ.Check(c[0]) != api.OK || typ.Check(c[1]) != api.OK {
				checkSubst(t, c[0], l, "")
				continue
			}
			checkSubst(t, c[0], l, wantSubst(c[0], l))
			checkCanon(t, c[0], wantCanon(c[0]))
		}
	})
}
