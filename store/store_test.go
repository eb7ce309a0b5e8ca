package store

import (
	"fmt"
	"math"
	"math/rand"
	"runtime/debug"
	"slices"
	"strings"
	"testing"

	"surety/api"
	"surety/typ"
)

func base(kind int) api.Type { return api.Type{Kind: kind} }

func number(n int) api.Type { return api.Type{Kind: api.TVar, N: n} }

func treeOf(kind int, kids ...api.Type) api.Type { return api.Type{Kind: kind, Kids: kids} }

func pair(a, b api.Type) api.Type { return treeOf(api.TPair, a, b) }

func fun(a, b api.Type) api.Type { return treeOf(api.TFun, a, b) }

func list(a api.Type) api.Type { return treeOf(api.TList, a) }

// The leaves, by short names, and the numbers of their nodes.
var (
	i = base(api.TInt)
	b = base(api.TBool)
	s = base(api.TStr)
	u = base(api.TUnit)
	d = base(api.TDyn)
	v = number(0)
)

const (
	nodeInt = iota
	nodeBool
	nodeStr
	nodeUnit
	nodeDyn
	first // the first node that is created
)

// extremes are numbers that are no nodes of any store.
var extremes = []int{-1, -2, -5, math.MinInt, math.MinInt + 1, api.MaxLimit + first, 1 << 32, 1<<32 + 1, 1 << 62, math.MaxInt - 1, math.MaxInt}

// text is the whole of a type: each node is <kind.N and its kids>.
func text(t api.Type) string {
	var kids strings.Builder
	for _, kid := range t.Kids {
		kids.WriteString(text(kid))
	}
	return fmt.Sprintf("<%d.%d%s>", t.Kind, t.N, kids.String())
}

// rightTypes are all right types of at most so many nodes from some leaves.
func rightTypes(most int, leaves ...api.Type) []api.Type {
	l := [][]api.Type{nil, leaves}
	for size := 2; size <= most; size++ {
		var next []api.Type
		for _, t := range l[size-1] {
			next = append(next, list(t))
		}
		for first := 1; first < size-1; first++ {
			for _, t := range l[first] {
				for _, r := range l[size-1-first] {
					next = append(next, pair(t, r), fun(t, r))
				}
			}
		}
		l = append(l, next)
	}
	return slices.Concat(l...)
}

// around calls f for a way to put a type at each place of some right closed types.
func around(f func(put func(t api.Type) api.Type)) {
	for _, put := range []func(t api.Type) api.Type{
		list,
		func(t api.Type) api.Type { return pair(t, i) },
		func(t api.Type) api.Type { return pair(i, t) },
		func(t api.Type) api.Type { return fun(t, i) },
		func(t api.Type) api.Type { return fun(i, t) },
	} {
		f(put)
		f(func(t api.Type) api.Type { return list(put(t)) })
		f(func(t api.Type) api.Type { return pair(put(t), list(u)) })
		f(func(t api.Type) api.Type { return pair(fun(d, b), put(t)) })
		f(func(t api.Type) api.Type { return fun(put(t), d) })
		f(func(t api.Type) api.Type { return fun(list(list(s)), put(t)) })
	}
}

// wrongTypes are types that are not right, in each field.
func wrongTypes() []api.Type {
	l := []api.Type{
		{}, {N: 1}, treeOf(0, i), treeOf(0, i, i),
		base(-1), base(10), treeOf(10, i, i), base(math.MinInt), base(math.MaxInt), base(256 + api.TInt), base(1<<32 + api.TDyn),
		number(-1), number(api.MaxVar + 1), number(math.MinInt), number(math.MaxInt), number(1 << 32),
		treeOf(api.TVar, i), treeOf(api.TVar, d, d), treeOf(api.TVar, v),
		base(api.TPair), treeOf(api.TPair, i), treeOf(api.TPair, i, i, i), treeOf(api.TPair, d, d, d),
		base(api.TFun), treeOf(api.TFun, i), treeOf(api.TFun, i, i, i), treeOf(api.TFun, d, d, d),
		base(api.TList), treeOf(api.TList, i, i), treeOf(api.TList, d, d, d),
	}
	for _, n := range []int{-1, 1, 5, math.MinInt, math.MaxInt} {
		l = append(l, api.Type{Kind: api.TPair, N: n, Kids: []api.Type{i, i}},
			api.Type{Kind: api.TFun, N: n, Kids: []api.Type{i, d}},
			api.Type{Kind: api.TList, N: n, Kids: []api.Type{i}})
	}
	for _, t := range []api.Type{i, b, s, u, d} {
		for _, n := range []int{-1, 1, math.MinInt, math.MaxInt, 1 << 32} {
			l = append(l, api.Type{Kind: t.Kind, N: n})
		}
		l = append(l, treeOf(t.Kind, i), treeOf(t.Kind, d), treeOf(t.Kind, i, i), treeOf(t.Kind, api.Type{}))
	}
	return l
}

// openTypes are right types that are not closed.
func openTypes() []api.Type {
	return []api.Type{v, number(1), number(4), number(5), number(api.MaxVar), list(v), pair(v, i), pair(i, v), fun(v, d), fun(d, number(7)), pair(v, v)}
}

// larger are some right closed types that rightTypes does not reach.
func larger() []api.Type {
	return []api.Type{
		fun(pair(i, d), list(s)),
		pair(fun(d, u), fun(list(b), u)),
		list(pair(list(fun(b, u)), pair(b, s))),
		fun(fun(fun(u, i), s), pair(d, pair(u, u))),
		pair(pair(pair(i, i), pair(i, i)), fun(list(list(i)), pair(i, i))),
	}
}

// play does in s what a script says, which has no errors: v1 creates a variable of
// level 1, p5,6 a pair, l5 a list, f5,6 a function, and =5,6 links 5 to 6.
func play(t *testing.T, s stores, script string) {
	t.Helper()
	for _, step := range strings.Fields(script) {
		var x, y int
		fmt.Sscanf(step[1:], "%d,%d", &x, &y)
		e := api.OK
		switch step[0] {
		case 'v':
			_, e = s.Var(x)
		case 'p':
			_, e = s.Make(api.TPair, x, y)
		case 'l':
			_, e = s.Make(api.TList, x, y)
		case 'f':
			_, e = s.Make(api.TFun, x, y)
		case '=':
			e = s.Link(x, y)
		default:
			t.Fatal(script, step)
		}
		if e != api.OK {
			t.Fatalf("%s in %s: %v", step, script, e)
		}
	}
}

// played is a store in which a script was played.
func played(t *testing.T, limit int, script string) *Store {
	t.Helper()
	s := New(limit)
	play(t, s, script)
	return s
}

// checkNumber checks what a call returned with which a node is created.
func checkNumber(t *testing.T, what string, n int, e api.Errno, want int, wantErrno api.Errno) {
	t.Helper()
	if n != want || e != wantErrno {
		t.Errorf("%s: %d, %v, want %d, %v", what, n, e, want, wantErrno)
	}
}

// checkTells checks what a store says of a node: its root, kind, kids, level and
// variables, and whether it is static.
func checkTells(t *testing.T, s stores, n int, want string) {
	t.Helper()
	if got := tells(s, n); got != want {
		t.Errorf("node %d: %s, want %s", n, got, want)
	}
}

// shapes tells the nodes from n on, each as its kind with its kids.
func shapes(s stores, n int) string {
	var l []string
	for ; s.Root(n) >= 0; n++ {
		l = append(l, fmt.Sprintf("%d%v", s.Kind(n), s.Kids(n)))
	}
	return strings.Join(l, " ")
}

// checkKept checks that what is done changes nothing that s says, also of the
// node that is created next.
func checkKept(t *testing.T, s *Store, what string, do func()) {
	t.Helper()
	top := len(s.nodes) + 2
	before := state(s, top)
	do()
	if after := state(s, top); after != before {
		t.Errorf("%s changed\n%sto\n%s", what, before, after)
	}
}

// P12.1: New, Count, Var, Make, Put.

func TestExample(t *testing.T) {
	s := New(3)
	n, e := s.Var(1)
	checkNumber(t, "Var(1)", n, e, 5, api.OK)
	n, e = s.Make(api.TPair, 5, 5)
	checkNumber(t, "Make(TPair, 5, 5)", n, e, 6, api.OK)
	if x, e := s.Read(6); text(x) != text(api.Type{}) || e != api.ErrLimit {
		t.Error(text(x), e)
	}
}

func TestLimits(t *testing.T) {
	for _, c := range [][2]int{
		{math.MinInt, 0}, {-1 << 32, 0}, {-5, 0}, {-1, 0}, {0, 0}, {1, 1}, {2, 2}, {5, 5}, {300, 300},
		{api.MaxLimit - 1, api.MaxLimit - 1}, {api.MaxLimit, api.MaxLimit}, {api.MaxLimit + 1, api.MaxLimit},
		{1 << 32, api.MaxLimit}, {1<<32 + 3, api.MaxLimit}, {math.MaxInt, api.MaxLimit},
	} {
		s := New(c[0])
		for k := range c[1] {
			if n, e := s.Var(k % 3); n != first+k || e != api.OK || s.Count() != k+1 {
				t.Fatal(c, k, n, e, s.Count())
			}
		}
		n, e := s.Var(0)
		checkNumber(t, fmt.Sprint("Var with the limit ", c[0]), n, e, 0, api.ErrLimit)
		n, e = s.Make(api.TList, 0, 0)
		checkNumber(t, fmt.Sprint("Make with the limit ", c[0]), n, e, 0, api.ErrLimit)
		if s.Count() != c[1] || s.Root(first+c[1]) != -1 {
			t.Error(c, s.Count(), s.Root(first+c[1]))
		}
	}
}

func TestVar(t *testing.T) {
	s := New(20)
	for k, level := range []int{0, 1, 2, 0, 999, api.MaxLevel, api.MaxLevel + 1, 1 << 20, 1 << 32, math.MaxInt} {
		n, e := s.Var(level)
		checkNumber(t, fmt.Sprint("Var of ", level), n, e, first+k, api.OK)
		checkTells(t, s, n, fmt.Sprintf("%d %d [] %d [%d] true", n, api.TVar, level, n))
		if s.Count() != k+1 {
			t.Error(k, s.Count())
		}
	}
	for _, level := range []int{-1, -2, -1 << 32, math.MinInt} {
		checkKept(t, s, "Var", func() {
			n, e := s.Var(level)
			checkNumber(t, fmt.Sprint("Var of ", level), n, e, 0, api.ErrArg)
		})
	}
	full := played(t, 2, "v1 v0")
	for level, want := range map[int]api.Errno{-1: api.ErrArg, math.MinInt: api.ErrArg, 0: api.ErrLimit, 1: api.ErrLimit, math.MaxInt: api.ErrLimit} {
		checkKept(t, full, "Var", func() {
			n, e := full.Var(level)
			checkNumber(t, fmt.Sprint("Var of ", level), n, e, 0, want)
		})
	}
}

func TestMake(t *testing.T) {
	s := New(20)
	play(t, s, "v1 v2")
	for k, c := range []struct {
		kind, a, b int
		want       string
	}{
		{api.TPair, 5, 6, "7 7 [5 6] -1 [5 6] true"},
		{api.TPair, 6, 5, "8 7 [6 5] -1 [6 5] true"},
		{api.TPair, 0, 4, "9 7 [0 4] -1 [] false"},
		{api.TList, 5, 0, "10 8 [5] -1 [5] true"},
		{api.TList, 4, 5, "11 8 [4] -1 [] false"},
		{api.TFun, 7, 3, "12 9 [7 3] -1 [5 6] true"},
		{api.TFun, 3, 11, "13 9 [3 11] -1 [] false"},
		{api.TFun, 5, 5, "14 9 [5 5] -1 [5] true"},
		{api.TPair, 14, 14, "15 7 [14 14] -1 [5] true"},
	} {
		n, e := s.Make(c.kind, c.a, c.b)
		checkNumber(t, fmt.Sprint("Make of ", c), n, e, first+2+k, api.OK)
		checkTells(t, s, n, c.want)
		if s.Count() != k+3 {
			t.Error(k, s.Count())
		}
	}
}

func TestMakeOfOtherKinds(t *testing.T) {
	s := played(t, 5, "v1 v2 p5,6")
	full := played(t, 3, "v1 v2 p5,6")
	for _, kind := range []int{0, api.TInt, api.TBool, api.TStr, api.TUnit, api.TDyn, api.TVar, 10, 11, -1, -7, 256 + api.TPair, 1<<32 + api.TList, math.MinInt, math.MaxInt} {
		for _, kids := range [][2]int{{5, 6}, {0, 0}, {4, 7}, {7, 5}, {-1, -1}} {
			for _, in := range []*Store{s, full} {
				checkKept(t, in, "Make", func() {
					n, e := in.Make(kind, kids[0], kids[1])
					checkNumber(t, fmt.Sprint("Make of ", kind, kids), n, e, 0, api.ErrArg)
				})
			}
		}
	}
}

func TestMakeWithNumbersThatAreNoNodes(t *testing.T) {
	s := played(t, 5, "v1 v2 p5,6")
	full := played(t, 3, "v1 v2 p5,6")
	for _, in := range []*Store{s, full} {
		for _, wrong := range append([]int{8, 9}, extremes...) {
			for _, n := range []int{0, 4, 5, 7} {
				for _, c := range [][3]int{{api.TPair, n, wrong}, {api.TPair, wrong, n}, {api.TPair, wrong, wrong}, {api.TFun, n, wrong}, {api.TFun, wrong, n}, {api.TFun, wrong, wrong}, {api.TList, wrong, n}, {api.TList, wrong, wrong}} {
					checkKept(t, in, "Make", func() {
						n, e := in.Make(c[0], c[1], c[2])
						checkNumber(t, fmt.Sprint("Make of ", c), n, e, 0, api.ErrArg)
					})
				}
			}
		}
	}
	for _, kind := range []int{api.TPair, api.TFun, api.TList} {
		for _, kids := range [][2]int{{5, 6}, {0, 4}, {7, 7}} {
			checkKept(t, full, "Make", func() {
				n, e := full.Make(kind, kids[0], kids[1])
				checkNumber(t, fmt.Sprint("Make of ", kind, kids), n, e, 0, api.ErrLimit)
			})
		}
	}
}

func TestMakeOfAListIgnoresTheSecondNumber(t *testing.T) {
	others := append([]int{0, 4, 5, 6, 7, 100}, extremes...)
	s := New(len(others) + 1)
	play(t, s, "v1")
	for k, other := range others {
		n, e := s.Make(api.TList, 5, other)
		checkNumber(t, fmt.Sprint("Make of a list with ", other), n, e, first+1+k, api.OK)
		checkTells(t, s, n, fmt.Sprintf("%d 8 [5] -1 [5] true", n))
		if s.Within(other, n) != (other == 5 || other == n) {
			t.Error(other, n)
		}
	}
	for _, other := range others {
		n, e := s.Make(api.TList, 5, other)
		checkNumber(t, fmt.Sprint("Make of a list with ", other), n, e, 0, api.ErrLimit)
	}
}

// leaves are the types whose nodes there are from the beginning, in order.
func leaves() []api.Type { return []api.Type{i, b, s, u, d} }

func TestPutOfLeaves(t *testing.T) {
	for _, in := range []*Store{New(0), New(7), played(t, 9, "v1 v2 p5,6"), played(t, 2, "v1 v1")} {
		for k, x := range leaves() {
			checkKept(t, in, "Put", func() {
				n, e := in.Put(x)
				checkNumber(t, "Put of "+text(x), n, e, k, api.OK)
			})
		}
	}
}

func TestPut(t *testing.T) {
	for _, c := range []struct {
		t    api.Type
		want string // the kinds and kids of the nodes from 5 on
	}{
		{list(i), "8[0]"}, {list(d), "8[4]"}, {pair(b, s), "7[1 2]"}, {fun(u, d), "9[3 4]"}, {fun(d, d), "9[4 4]"},
		{list(list(list(b))), "8[1] 8[5] 8[6]"},
		{pair(list(i), fun(b, s)), "8[0] 9[1 2] 7[5 6]"},
		{fun(pair(i, b), list(d)), "7[0 1] 8[4] 9[5 6]"},
		{pair(pair(list(i), b), s), "8[0] 7[5 1] 7[6 2]"},
		{pair(i, pair(b, list(s))), "8[2] 7[1 5] 7[0 6]"},
		{pair(list(i), list(i)), "8[0] 8[0] 7[5 6]"},
		{fun(fun(pair(i, i), list(u)), pair(list(s), fun(d, i))), "7[0 0] 8[3] 9[5 6] 8[2] 9[4 0] 7[8 9] 9[7 10]"},
		{list(fun(fun(i, b), fun(fun(s, u), d))), "9[0 1] 9[2 3] 9[6 4] 9[5 7] 8[8]"},
	} {
		s := New(20)
		n, e := s.Put(c.t)
		checkNumber(t, "Put of "+text(c.t), n, e, first+inner(c.t)-1, api.OK)
		if got := shapes(s, first); got != c.want || s.Count() != inner(c.t) {
			t.Errorf("Put of %s: %s, Count %d, want %s", text(c.t), got, s.Count(), c.want)
		}
	}
}

func TestPutOfSeveralTypes(t *testing.T) {
	s := New(8)
	play(t, s, "v1")
	for k, c := range []struct {
		t     api.Type
		want  int
		e     api.Errno
		count int
	}{
		{fun(list(i), d), 7, api.OK, 3}, {fun(list(i), d), 9, api.OK, 5}, {i, 0, api.OK, 5},
		{list(list(list(list(b)))), 0, api.ErrLimit, 5}, {api.Type{}, 0, api.ErrArg, 5}, {list(list(list(b))), 12, api.OK, 8},
		{list(b), 0, api.ErrLimit, 8}, {d, 4, api.OK, 8}, {v, 0, api.ErrArg, 8},
	} {
		n, e := s.Put(c.t)
		checkNumber(t, fmt.Sprint(k), n, e, c.want, c.e)
		if s.Count() != c.count {
			t.Error(k, s.Count())
		}
	}
	if got := shapes(s, 6); got != "8[0] 9[6 4] 8[0] 9[8 4] 8[1] 8[10] 8[11]" {
		t.Error(got)
	}
}

func TestLimitsOfPut(t *testing.T) {
	shared := fun(i, list(d))
	types := append(rightTypes(4, i, d), larger()...)
	types = append(types, pair(shared, shared), pair(pair(shared, shared), pair(shared, shared)))
	for _, x := range types {
		// Also if nodes were created and counted before.
		for _, before := range []int{0, 1, 3} {
			for _, more := range []int{-1, 0, 1} {
				limit := inner(x) + before + more
				if limit < before {
					continue
				}
				s := New(limit)
				play(t, s, strings.Repeat("v1 ", before))
				if more < 0 {
					checkKept(t, s, "Put", func() {
						n, e := s.Put(x)
						checkNumber(t, "Put of "+text(x), n, e, 0, api.ErrLimit)
					})
					continue
				}
				want := first + before + inner(x) - 1
				if inner(x) == 0 {
					want = x.Kind - 1
				}
				n, e := s.Put(x)
				checkNumber(t, "Put of "+text(x), n, e, want, api.OK)
				if s.Count() != before+inner(x) {
					t.Error(text(x), s.Count())
				}
			}
		}
	}
}

func TestLimitsOfPutAfterRead(t *testing.T) {
	s := New(5)
	for range 3 {
		if _, e := s.Read(0); e != api.OK {
			t.Fatal(e)
		}
	}
	checkKept(t, s, "Put", func() {
		n, e := s.Put(list(list(list(i))))
		checkNumber(t, "Put", n, e, 0, api.ErrLimit)
	})
	n, e := s.Put(list(list(i)))
	checkNumber(t, "Put", n, e, 6, api.OK)
	if s.Count() != 5 {
		t.Error(s.Count())
	}
}

func TestPutOfWrongTypes(t *testing.T) {
	for _, limit := range []int{0, 1, 2, 50} {
		s := New(limit)
		checkWrong := func(x api.Type) {
			if n, e := s.Put(x); n != 0 || e != api.ErrArg {
				t.Errorf("Put of %s with the limit %d: %d, %v", text(x), limit, n, e)
			}
		}
		for _, wrong := range append(wrongTypes(), openTypes()...) {
			checkWrong(wrong)
			around(func(put func(t api.Type) api.Type) { checkWrong(put(wrong)) })
			// Also behind more than there is room for.
			checkWrong(pair(pair(pair(i, i), pair(i, i)), wrong))
		}
		if s.Count() != 0 || s.Root(first) != -1 {
			t.Error(limit, s.Count())
		}
	}
}

func TestWhatWasPutIsRead(t *testing.T) {
	for _, x := range append(rightTypes(5, i, b, s, u, d), larger()...) {
		st := New(100)
		n, _ := st.Put(x)
		if got, e := st.Read(n); !typ.Same(got, x) || e != api.OK || st.Static(n) != typ.Static(x) {
			t.Errorf("%s was put, %s, %v read", text(x), text(got), e)
		}
		if want := inner(x) + typ.Size(x); st.Count() != want {
			t.Errorf("%s: Count %d, want %d", text(x), st.Count(), want)
		}
	}
}

// P12.2: what a store says of nodes.

func TestNumbersThatAreNoNodes(t *testing.T) {
	for _, in := range []*Store{New(0), New(10), played(t, 10, "v1 v2 p5,6 =6,4"), played(t, 3, "v1 v2 p5,6")} {
		for _, wrong := range append([]int{first + in.Count(), first + in.Count() + 1}, extremes...) {
			checkTells(t, in, wrong, "-1 0 [] -1 [] false")
			for n := range first + in.Count() {
				if in.Within(wrong, n) || in.Within(n, wrong) || in.Within(wrong, wrong) {
					t.Error(wrong, n)
				}
			}
		}
	}
}

func TestLeaves(t *testing.T) {
	for _, in := range []*Store{New(0), New(-1), New(10), played(t, 10, "v1 p5,4 l6")} {
		for n, want := range []string{"0 1 [] -1 [] true", "1 2 [] -1 [] true", "2 3 [] -1 [] true", "3 4 [] -1 [] true", "4 5 [] -1 [] false"} {
			checkTells(t, in, n, want)
			for m := range 5 {
				if in.Within(n, m) != (n == m) {
					t.Error(n, m)
				}
			}
		}
	}
}

func TestVariablesThatAreLinked(t *testing.T) {
	// In each way all three variables come to stand for the pair 9.
	for _, links := range []string{"=5,6 =6,7 =7,9", "=7,9 =6,7 =5,6", "=6,7 =5,6 =7,9", "=6,7 =7,9 =5,6", "=7,9 =6,5 =6,7", "=5,9 =6,9 =7,9", "=5,6 =5,7 =5,9", "=7,5 =6,7 =6,9"} {
		s := played(t, 10, "v3 v3 v3 v2 p8,0 "+links)
		for n := 5; n <= 7; n++ {
			checkTells(t, s, n, "9 7 [8 0] -1 [8] true")
		}
		checkTells(t, s, 8, "8 6 [] 2 [8] true")
		checkTells(t, s, 9, "9 7 [8 0] -1 [8] true")
	}
}

func TestRootsOverSeveralLinks(t *testing.T) {
	s := played(t, 10, "v3 v3 v3 v3 l5")
	play(t, s, "=5,6")
	checkTells(t, s, 5, "6 6 [] 3 [6] true")
	checkTells(t, s, 9, "9 8 [5] -1 [6] true")
	play(t, s, "=6,7")
	checkTells(t, s, 5, "7 6 [] 3 [7] true")
	checkTells(t, s, 9, "9 8 [5] -1 [7] true")
	play(t, s, "=7,8")
	checkTells(t, s, 5, "8 6 [] 3 [8] true")
	checkTells(t, s, 9, "9 8 [5] -1 [8] true")
	play(t, s, "=8,4")
	for n := 5; n <= 8; n++ {
		checkTells(t, s, n, "4 5 [] -1 [] false")
	}
	checkTells(t, s, 9, "9 8 [5] -1 [] false")
	if !s.Within(6, 9) || !s.Within(4, 7) || !s.Within(7, 4) || s.Within(9, 5) || s.Within(3, 9) {
		t.Error(state(s, 9))
	}
}

func TestKidsAsTheyWereGiven(t *testing.T) {
	s := played(t, 12, "v3 v3 p5,6 f6,7 l5 v3 v3 =5,6 =6,0 =10,7 =11,10")
	checkTells(t, s, 7, "7 7 [5 6] -1 [] true")
	checkTells(t, s, 8, "8 9 [6 7] -1 [] true")
	checkTells(t, s, 9, "9 8 [5] -1 [] true")
	checkTells(t, s, 10, "7 7 [5 6] -1 [] true")
	checkTells(t, s, 11, "7 7 [5 6] -1 [] true")
	checkTells(t, s, 5, "0 1 [] -1 [] true")
}

func TestOrderOfVariables(t *testing.T) {
	// The variables are 5 to 9.
	for _, c := range []struct{ script, want string }{
		{"p5,6", "[5 6]"}, {"p6,5", "[6 5]"}, {"f9,5", "[9 5]"}, {"p5,5", "[5]"}, {"l7", "[7]"}, {"p0,7", "[7]"}, {"p4,3", "[]"},
		{"p6,5 p10,7", "[6 5 7]"}, {"p6,5 p7,10", "[7 6 5]"}, {"p6,5 f5,10", "[5 6]"}, {"p6,5 f10,6", "[6 5]"},
		{"p5,6 p7,8 p11,10", "[7 8 5 6]"}, {"p5,6 p6,7 p10,11", "[5 6 7]"}, {"p5,6 p7,6 p11,10", "[7 6 5]"},
		{"l9 p10,5 p6,11 f11,12", "[9 5 6]"}, {"l9 p10,5 p6,11 f12,11", "[6 9 5]"}, {"l9 p10,5 p6,11 f12,5", "[6 9 5]"},
		{"p8,7 l10 p11,6 p5,12 p13,10", "[5 8 7 6]"}, {"p8,7 l10 p11,6 p5,12 p10,13", "[8 7 5 6]"},
		{"p5,6 p7,8 =6,9 =5,8 p10,11", "[8 9 7]"}, {"p5,6 p7,8 =5,11", "[7 8]"},
		{"p5,6 =6,9 p9,7 =5,11 f10,8", "[9 7 8]"}, {"p7,6 p5,10 =7,4 =6,8 l11", "[5 8]"},
		{"p9,8 p7,6 p10,11 p11,10 p12,13", "[9 8 7 6]"}, {"p9,8 p7,6 p10,11 p11,10 p13,12", "[7 6 9 8]"},
	} {
		s := played(t, 20, "v1 v2 v3 v4 v5 "+c.script)
		if got := fmt.Sprint(s.Vars(first + s.Count() - 1)); got != c.want {
			t.Errorf("%s: %s, want %s", c.script, got, c.want)
		}
	}
}

func TestWithin(t *testing.T) {
	// 9 is a pair of a function and the variable 6, which is a list of 5.
	s := played(t, 20, "v1 v2 f5,6 l5 p7,6 =6,8 v1 l10 p9,9")
	for n, want := range map[int][]int{
		5: {5}, 6: {5, 6, 8}, 7: {5, 6, 7, 8}, 8: {5, 6, 8}, 9: {5, 6, 7, 8, 9},
		10: {10}, 11: {10, 11}, 12: {5, 6, 7, 8, 9, 12},
	} {
		for v := -1; v < 14; v++ {
			if got := s.Within(v, n); got != slices.Contains(want, v) {
				t.Errorf("%d within %d: %v", v, n, got)
			}
		}
	}
}

func TestStatic(t *testing.T) {
	s := played(t, 20, "v1 v2 p5,0 l4 f7,8 f7,6 p10,7 l9")
	for n, want := range map[int]bool{5: true, 6: true, 7: true, 8: false, 9: false, 10: true, 11: true, 12: false} {
		if got := s.Static(n); got != want {
			t.Errorf("%d: %v", n, got)
		}
	}
	play(t, s, "=6,8")
	for n, want := range map[int]bool{5: true, 6: false, 7: true, 8: false, 9: false, 10: false, 11: false, 12: false} {
		if got := s.Static(n); got != want {
			t.Errorf("%d: %v", n, got)
		}
	}
}

// P12.3: Link and Lower.

// levels tells the levels of nodes.
func levels(s stores, nodes ...int) string {
	var l []int
	for _, n := range nodes {
		l = append(l, s.Level(n))
	}
	return fmt.Sprint(l)
}

func TestLinkToEachKindOfNode(t *testing.T) {
	for _, c := range []struct {
		n    int
		want string // what is said of 5 afterwards
	}{
		{0, "0 1 [] -1 [] true"}, {1, "1 2 [] -1 [] true"}, {2, "2 3 [] -1 [] true"}, {3, "3 4 [] -1 [] true"}, {4, "4 5 [] -1 [] false"},
		{6, "6 6 [] 2 [6] true"}, {7, "7 7 [6 4] -1 [6] false"}, {8, "8 8 [7] -1 [6] false"}, {9, "9 9 [6 6] -1 [6] true"},
		{10, "9 9 [6 6] -1 [6] true"}, {11, "9 9 [6 6] -1 [6] true"}, {12, "6 6 [] 2 [6] true"},
	} {
		s := played(t, 20, "v2 v4 p6,4 l7 f6,6 v3 v5 v9 =10,9 =11,10 =12,6")
		if e := s.Link(5, c.n); e != api.OK {
			t.Error(c.n, e)
		}
		checkTells(t, s, 5, c.want)
		if s.Count() != 8 {
			t.Error(c.n, s.Count())
		}
	}
}

func TestErrorsOfLink(t *testing.T) {
	// 5 and 6 are the same variable, 7 is int, 8 a pair with 5 within it, 9 is 8.
	s := played(t, 20, "v1 v2 v3 p6,0 v4 =5,6 =7,0 =9,8 l9 v1")
	for _, c := range []struct {
		v, n int
		want api.Errno
	}{
		{5, 5, api.ErrArg}, {5, 6, api.ErrArg}, {6, 5, api.ErrArg}, {11, 11, api.ErrArg},
		{0, 5, api.ErrArg}, {4, 5, api.ErrArg}, {0, 0, api.ErrArg}, {0, 4, api.ErrArg}, {8, 5, api.ErrArg}, {10, 11, api.ErrArg}, {8, 8, api.ErrArg},
		{7, 11, api.ErrArg}, {7, 0, api.ErrArg}, {7, 1, api.ErrArg}, {9, 11, api.ErrArg}, {9, 8, api.ErrArg}, {9, 9, api.ErrArg}, {9, 5, api.ErrArg},
		{5, 8, api.ErrLoop}, {6, 8, api.ErrLoop}, {5, 9, api.ErrLoop}, {6, 9, api.ErrLoop}, {5, 10, api.ErrLoop}, {6, 10, api.ErrLoop},
	} {
		checkKept(t, s, "Link", func() {
			if e := s.Link(c.v, c.n); e != c.want {
				t.Errorf("Link(%d, %d): %v", c.v, c.n, e)
			}
		})
	}
	for _, wrong := range append([]int{12, 13}, extremes...) {
		for n := range 12 {
			checkKept(t, s, "Link", func() {
				if s.Link(wrong, n) != api.ErrArg || s.Link(n, wrong) != api.ErrArg || s.Link(wrong, wrong) != api.ErrArg {
					t.Error(wrong, n)
				}
			})
		}
	}
}

func TestErrLoopKeepsTheLevels(t *testing.T) {
	s := played(t, 20, "v1 v5 v6 p6,5 p7,8 l9")
	checkKept(t, s, "Link", func() {
		if e := s.Link(5, 10); e != api.ErrLoop {
			t.Error(e)
		}
	})
	if got := levels(s, 5, 6, 7); got != "[1 5 6]" {
		t.Error(got)
	}
}

func TestLevelsOfLink(t *testing.T) {
	// 5 to 9 are variables of the levels 0, 2, 4, 2, 1.
	for _, c := range []struct{ script, want string }{
		{"=5,6", "[0 0 4 2 1]"}, {"=6,5", "[0 0 4 2 1]"}, {"=6,7", "[0 2 2 2 1]"}, {"=7,6", "[0 2 2 2 1]"}, {"=6,8", "[0 2 4 2 1]"}, {"=8,6", "[0 2 4 2 1]"},
		{"p6,7 =5,10", "[-1 0 0 2 1]"}, {"p6,7 =8,10", "[0 2 2 -1 1]"}, {"p6,7 =9,10", "[0 1 1 2 -1]"},
		{"p5,7 l10 f11,8 =6,12", "[0 -1 2 2 1]"}, {"p5,7 l10 f11,8 =9,12", "[0 2 1 1 -1]"},
		{"l7 p10,10 =6,11", "[0 -1 2 2 1]"}, {"=7,8 =8,9 =9,5", "[0 2 0 0 0]"},
		{"p7,7 =9,10 l7 =8,11", "[0 2 1 -1 -1]"}, {"l7 =8,10 l8 =9,11", "[0 2 1 -1 -1]"},
		{"=7,6 l7 =9,10", "[0 1 1 2 -1]"}, {"=5,0", "[-1 2 4 2 1]"}, {"=5,0 l5 =7,10", "[-1 2 -1 2 1]"},
	} {
		s := played(t, 20, "v0 v2 v4 v2 v1 "+c.script)
		if got := levels(s, 5, 6, 7, 8, 9); got != c.want {
			t.Errorf("%s: %s, want %s", c.script, got, c.want)
		}
	}
}

func TestLower(t *testing.T) {
	// 5 to 8 are variables of the levels 0, 2, 4, 2; 9 to 12 contain some of them.
	script := "v0 v2 v4 v2 p6,7 l9 f10,5 p0,4 v9 =13,9"
	for _, c := range []struct {
		n, level int
		want     string // of 5 to 8
	}{
		{11, 0, "[0 0 0 2]"}, {11, 1, "[0 1 1 2]"}, {11, 2, "[0 2 2 2]"}, {11, 3, "[0 2 3 2]"}, {11, 4, "[0 2 4 2]"}, {11, 5, "[0 2 4 2]"}, {11, math.MaxInt, "[0 2 4 2]"},
		{9, 1, "[0 1 1 2]"}, {10, 0, "[0 0 0 2]"}, {13, 1, "[0 1 1 2]"}, {5, 0, "[0 2 4 2]"}, {8, 1, "[0 2 4 1]"}, {8, 0, "[0 2 4 0]"}, {8, 3, "[0 2 4 2]"},
		{12, 0, "[0 2 4 2]"}, {0, 0, "[0 2 4 2]"}, {4, 0, "[0 2 4 2]"}, {4, 7, "[0 2 4 2]"},
	} {
		s := played(t, 20, script)
		if e := s.Lower(c.n, c.level); e != api.OK {
			t.Error(c, e)
		}
		if got := levels(s, 5, 6, 7, 8); got != c.want || s.Count() != 9 {
			t.Errorf("Lower(%d, %d): %s, want %s", c.n, c.level, got, c.want)
		}
	}
	s := played(t, 20, script)
	for n := range 15 {
		for _, level := range []int{-1, -2, math.MinInt, -1 << 32} {
			checkKept(t, s, "Lower", func() {
				if e := s.Lower(n, level); e != api.ErrArg {
					t.Error(n, level, e)
				}
			})
		}
	}
	for _, wrong := range append([]int{14, 15}, extremes...) {
		for _, level := range []int{0, 1, -1, math.MaxInt} {
			checkKept(t, s, "Lower", func() {
				if e := s.Lower(wrong, level); e != api.ErrArg {
					t.Error(wrong, level, e)
				}
			})
		}
	}
}

func TestLowerOfALinkedVariable(t *testing.T) {
	s := played(t, 20, "v5 v6 v7 =5,6 l5")
	if e := s.Lower(5, 3); e != api.OK || levels(s, 5, 6, 7) != "[3 3 7]" {
		t.Error(e, levels(s, 5, 6, 7))
	}
	if e := s.Lower(8, 2); e != api.OK || levels(s, 5, 6, 7) != "[2 2 7]" {
		t.Error(e, levels(s, 5, 6, 7))
	}
	play(t, s, "=6,7")
	if got := levels(s, 5, 6, 7); got != "[2 2 2]" {
		t.Error(got)
	}
}

// P12.4: Copy.

// numbers reads numbers.
func numbers(text string) []int {
	var l []int
	for _, field := range strings.Fields(text) {
		var n int
		fmt.Sscan(field, &n)
		l = append(l, n)
	}
	return l
}

// checkCopy copies n in a store, and checks the result and the nodes that were
// created, each as its kind with its kids.
func checkCopy(t *testing.T, s *Store, n int, from, to string, want int, created string) {
	t.Helper()
	before := s.Count()
	old := state(s, first+before-1)
	got, e := s.Copy(n, numbers(from), numbers(to))
	all := shapes(s, first+before)
	if got != want || e != api.OK || all != created || s.Count() != before+strings.Count(all, "[") {
		t.Errorf("Copy of %d with %s for %s: %d, %v, %s, want %d, %s", n, to, from, got, e, all, want, created)
	}
	if now := state(s, first+before-1); strings.SplitN(now, "\n", 2)[1] != strings.SplitN(old, "\n", 2)[1] {
		t.Errorf("Copy of %d changed\n%sto\n%s", n, old, now)
	}
}

func TestCopy(t *testing.T) {
	// 5 to 8 are variables.
	for _, c := range []struct {
		script   string
		n        int
		from, to string
		want     int
		created  string
	}{
		// No variables, and none that is within the node.
		{"", 0, "", "", 0, ""}, {"", 4, "", "", 4, ""}, {"", 5, "", "", 5, ""}, {"p5,6", 9, "", "", 9, ""}, {"=5,6", 5, "", "", 6, ""}, {"p5,6 =7,9", 7, "", "", 9, ""},
		{"", 0, "5", "6", 0, ""}, {"", 5, "6", "7", 5, ""}, {"=5,6", 5, "7", "8", 6, ""}, {"p5,6", 9, "7 8", "0 1", 9, ""}, {"p5,6 =7,9", 7, "8", "5", 9, ""}, {"p5,6 =5,4", 9, "7", "6", 9, ""},
		// The root itself.
		{"", 5, "5", "6", 6, ""}, {"", 5, "5", "4", 4, ""}, {"", 5, "5", "5", 5, ""}, {"p5,6", 5, "5", "9", 9, ""}, {"=5,6", 5, "6", "7", 7, ""}, {"=5,6", 6, "5", "7", 7, ""}, {"=5,6", 5, "5", "0", 0, ""},
		{"", 7, "5 6 7", "6 7 5", 5, ""}, {"", 6, "5 6 7", "6 7 5", 7, ""},
		// The element of to, not its root.
		{"=6,7", 5, "5", "6", 6, ""}, {"=6,4", 5, "5", "6", 6, ""}, {"=6,7 p5,5", 9, "5", "6", 10, "7[6 6]"},
		{"=5,6 =7,8", 5, "6", "7", 7, ""}, {"=5,6", 5, "6", "5", 5, ""},
		// Pairs, lists and functions.
		{"p5,6", 9, "5", "7", 10, "7[7 6]"}, {"p5,6", 9, "6", "7", 10, "7[5 7]"}, {"p5,6", 9, "5 6", "7 8", 10, "7[7 8]"}, {"p5,6", 9, "6 5", "7 8", 10, "7[8 7]"},
		{"p5,6", 9, "5 6", "6 5", 10, "7[6 5]"}, {"p5,6", 9, "5", "5", 10, "7[5 6]"}, {"p5,5", 9, "5", "0", 10, "7[0 0]"}, {"f5,4", 9, "5", "9", 10, "9[9 4]"},
		{"l5", 9, "5", "6", 10, "8[6]"}, {"l5", 9, "5 6 7", "1 2 3", 10, "8[1]"}, {"f0,5", 9, "8 5", "5 8", 10, "9[0 8]"},
		// Kids that stay are replaced by their roots.
		{"p5,6 =6,7", 9, "5", "8", 10, "7[8 7]"}, {"p5,6 =6,4", 9, "5", "8", 10, "7[8 4]"}, {"p5,6 l7 =6,10", 9, "5", "8", 11, "7[8 10]"},
		{"f5,6 =5,8 =8,0", 9, "6", "7", 10, "9[0 7]"}, {"p5,6 =5,7", 9, "7", "8", 10, "7[8 6]"}, {"p5,6 =5,7", 9, "5", "8", 10, "7[8 6]"}, {"p5,6 =5,6", 9, "5", "8", 10, "7[8 8]"},
		{"l5 p6,9 =6,9", 10, "5", "7", 12, "8[7] 7[11 11]"}, {"l5 p6,9 =6,9", 6, "5", "7", 11, "8[7]"},
		// Only what has a variable within it is created anew.
		{"l6 p5,9", 10, "5", "7", 11, "7[7 9]"}, {"l6 p9,5", 10, "6", "7", 12, "8[7] 7[11 5]"}, {"l6 p5,9 l10 f11,9", 12, "5", "7", 15, "7[7 9] 8[13] 9[14 9]"},
		{"l6 l5 p9,10", 11, "6 7", "0 1", 13, "8[0] 7[12 10]"},
		// In order: the first kid with all below it, the second kid, the node.
		{"l5 l6 p9,10", 11, "5 6", "7 8", 14, "8[7] 8[8] 7[12 13]"}, {"l5 l6 p10,9", 11, "5 6", "7 8", 14, "8[8] 8[7] 7[12 13]"},
		{"l5 l9 l6 p11,10", 12, "6 5", "7 8", 16, "8[7] 8[8] 8[14] 7[13 15]"}, {"l5 l9 l6 p10,11", 12, "6 5", "7 8", 16, "8[8] 8[13] 8[7] 7[14 15]"},
		// Each once.
		{"l5 p9,9", 10, "5", "6", 12, "8[6] 7[11 11]"}, {"l5 p9,6 p10,9", 11, "5", "7", 14, "8[7] 7[12 6] 7[13 12]"}, {"l5 p9,6 p9,10", 11, "5", "7", 14, "8[7] 7[12 6] 7[12 13]"},
		{"l5 p6,9 p9,10 p11,10 =6,9", 12, "5", "8", 16, "8[8] 7[13 13] 7[13 14] 7[15 14]"}, {"l5 f9,9 p10,10 l11 p12,11", 13, "5", "0", 18, "8[0] 9[14 14] 7[15 15] 8[16] 7[17 16]"},
		// What is inserted is not changed.
		{"p5,6 p9,9", 10, "5 6", "10 9", 12, "7[10 9] 7[11 11]"}, {"l5 l9", 10, "5", "10", 12, "8[10] 8[11]"}, {"p5,6 l9", 10, "5 6", "9 5", 12, "7[9 5] 8[11]"},
		// The same node for several variables.
		{"p5,6 p7,9", 10, "5 6 7", "8 8 8", 12, "7[8 8] 7[8 11]"},
	} {
		s := played(t, 30, "v1 v2 v3 v4 "+c.script)
		checkCopy(t, s, c.n, c.from, c.to, c.want, c.created)
		m := newModel(30)
		play(t, m, "v1 v2 v3 v4 "+c.script)
		if n, e := m.Copy(c.n, numbers(c.from), numbers(c.to)); n != c.want || e != api.OK || state(m, 30) != state(s, 30) {
			t.Errorf("%s: the model differs: %d, %v", c.script, n, e)
		}
	}
}

func TestCopiesOfCopies(t *testing.T) {
	s := played(t, 30, "v1 v2 p5,6 l7 v3 v3")
	checkCopy(t, s, 8, "5", "9", 12, "7[9 6] 8[11]")
	checkCopy(t, s, 12, "9 6", "10 12", 14, "7[10 12] 8[13]")
	checkCopy(t, s, 14, "5", "0", 14, "")
	checkCopy(t, s, 14, "6", "0", 18, "7[9 0] 8[15] 7[10 16] 8[17]")
}

func TestErrorsOfCopy(t *testing.T) {
	// 5 to 7 are variables, 8 is 7, 9 is int, 10 and 11 are a pair and a list.
	script := "v1 v2 v3 v4 v5 p5,6 l10 =8,7 =9,0"
	s := played(t, 20, script)
	full := played(t, 7, script)
	for _, in := range []*Store{s, full} {
		check := func(n int, from, to []int) {
			t.Helper()
			checkKept(t, in, "Copy", func() {
				t.Helper()
				got, e := in.Copy(n, from, to)
				checkNumber(t, fmt.Sprint("Copy of ", n, from, to), got, e, 0, api.ErrArg)
			})
		}
		for _, n := range []int{0, 5, 7, 10, 11} {
			for _, c := range [][2]string{
				{"5", ""}, {"", "5"}, {"5 6", "5"}, {"5", "5 6"}, {"5 6 7", "0"}, {"7", "0 0 0"},
				{"0", "5"}, {"4", "5"}, {"9", "5"}, {"10", "5"}, {"11", "5"}, {"5 10", "5 6"}, {"10 5", "5 6"}, {"5 6 9", "5 5 5"},
				{"5 5", "6 7"}, {"5 5", "6 6"}, {"7 8", "5 6"}, {"8 7", "5 5"}, {"8 8", "5 6"}, {"5 6 5", "7 7 7"}, {"5 6 6", "7 7 7"}, {"7 5 8", "0 1 2"},
			} {
				check(n, numbers(c[0]), numbers(c[1]))
			}
			for _, wrong := range append([]int{12, 13}, extremes...) {
				check(wrong, nil, nil)
				check(wrong, []int{5}, []int{6})
				check(n, []int{wrong}, []int{5})
				check(n, []int{5}, []int{wrong})
				check(n, []int{5, wrong}, []int{5, 5})
				check(n, []int{5, 6}, []int{5, wrong})
				check(n, []int{wrong, 5}, []int{5, 5})
				check(n, []int{5, 6}, []int{wrong, 5})
				check(n, []int{wrong}, nil)
			}
		}
	}
}

func TestLimitsOfCopy(t *testing.T) {
	for _, c := range []struct {
		script   string
		n        int
		from, to string
		want     int // how many nodes are created
	}{
		{"v1 v2", 5, "5", "6", 0}, {"v1 v2 p5,6", 7, "", "", 0}, {"v1 v2 l5", 7, "6", "5", 0}, {"v1 v2 l5", 7, "5", "6", 1},
		{"v1 v2 p5,6 l7", 8, "5", "6", 2}, {"v1 v2 p5,6 p7,7", 8, "6", "0", 2}, {"v1 v2 p5,6 p7,7 p8,7 f9,8", 10, "6", "0", 4},
		{"v1 v2 l5 l6 p7,8", 9, "6", "0", 2}, {"v1 v2 l5 l6 p7,8", 9, "5 6", "0 0", 3},
	} {
		nodes := len(strings.Fields(c.script))
		for before := range 3 {
			for more := -1; more <= 1; more++ {
				if c.want+more < 0 {
					continue
				}
				s := played(t, nodes+before+c.want+more, c.script)
				for range before {
					s.Read(0)
				}
				if more < 0 {
					checkKept(t, s, "Copy", func() {
						n, e := s.Copy(c.n, numbers(c.from), numbers(c.to))
						checkNumber(t, fmt.Sprint("Copy of ", c), n, e, 0, api.ErrLimit)
					})
				} else if _, e := s.Copy(c.n, numbers(c.from), numbers(c.to)); e != api.OK || s.Count() != nodes+before+c.want {
					t.Error(c, before, more, e, s.Count())
				}
			}
		}
	}
}

// P12.5: Read.

func TestRead(t *testing.T) {
	// 5 to 7 are variables.
	for _, c := range []struct {
		script string
		n      int
		want   api.Type
	}{
		{"", 0, i}, {"", 1, b}, {"", 2, s}, {"", 3, u}, {"", 4, d}, {"", 5, number(5)}, {"", 7, number(7)},
		{"=5,6", 5, number(6)}, {"=5,6 =6,7", 5, number(7)}, {"=5,4", 5, d}, {"=5,0 l5", 8, list(i)},
		{"p5,6", 8, pair(number(5), number(6))}, {"p6,5", 8, pair(number(6), number(5))}, {"f5,5", 8, fun(number(5), number(5))}, {"l7", 8, list(number(7))},
		{"p5,6 =5,6", 8, pair(number(6), number(6))}, {"l6 =5,8 p5,7", 9, pair(list(number(6)), number(7))}, {"l6 =5,8", 5, list(number(6))},
		{"p5,0 f8,8 l9", 10, list(fun(pair(number(5), i), pair(number(5), i)))},
		{"p5,4 =5,2 f8,7 p9,8", 10, pair(fun(pair(s, d), number(7)), pair(s, d))},
		{"l5 l8 l9 p8,10 p11,9", 12, pair(pair(list(number(5)), list(list(list(number(5))))), list(list(number(5))))},
	} {
		size := typ.Size(c.want)
		for before := range 3 {
			for more := -1; more <= 1; more++ {
				st := New(1000)
				play(t, st, "v1 v2 v3 "+c.script)
				st = played(t, st.Count()+before+size+more, "v1 v2 v3 "+c.script)
				for range before {
					st.Read(0)
				}
				if more < 0 {
					checkKept(t, st, "Read", func() {
						if got, e := st.Read(c.n); text(got) != text(api.Type{}) || e != api.ErrLimit {
							t.Errorf("%s: %s, %v", c.script, text(got), e)
						}
					})
					continue
				}
				count := st.Count()
				if got, e := st.Read(c.n); text(got) != text(c.want) || e != api.OK || st.Count() != count+size {
					t.Errorf("%s: %s, %v, Count %d, want %s, %d", c.script, text(got), e, st.Count(), text(c.want), count+size)
				}
			}
		}
	}
}

func TestReadChangesTheCountOnly(t *testing.T) {
	s := played(t, 30, "v1 v2 p5,6 l7 =5,4")
	before := state(s, 9)
	s.Read(8)
	if after := state(s, 9); after != strings.Replace(before, "4\n", "8\n", 1) {
		t.Errorf("%s\nwas\n%s", after, before)
	}
	n, e := s.Var(1)
	checkNumber(t, "Var after Read", n, e, 9, api.OK)
	n, e = s.Make(api.TList, 8, 0)
	checkNumber(t, "Make after Read", n, e, 10, api.OK)
}

func TestReadOfNumbersThatAreNoNodes(t *testing.T) {
	for _, in := range []*Store{New(0), New(10), played(t, 20, "v1 v2 p5,6"), played(t, 3, "v1 v2 p5,6")} {
		for _, wrong := range append([]int{first + in.Count(), first + in.Count() + 1}, extremes...) {
			checkKept(t, in, "Read", func() {
				if got, e := in.Read(wrong); text(got) != text(api.Type{}) || e != api.ErrArg {
					t.Error(wrong, text(got), e)
				}
			})
		}
	}
}

func TestReadAgainAndAgain(t *testing.T) {
	s := played(t, 12, "v1 p5,0")
	for k := range 3 {
		if got, e := s.Read(6); text(got) != text(pair(number(5), i)) || e != api.OK || s.Count() != 5+3*k {
			t.Error(k, text(got), e, s.Count())
		}
	}
	if got, e := s.Read(6); text(got) != text(api.Type{}) || e != api.ErrLimit || s.Count() != 11 {
		t.Error(text(got), e, s.Count())
	}
	if got, e := s.Read(5); text(got) != text(number(5)) || e != api.OK || s.Count() != 12 {
		t.Error(text(got), e, s.Count())
	}
	if got, e := s.Read(0); text(got) != text(api.Type{}) || e != api.ErrLimit || s.Count() != 12 {
		t.Error(text(got), e, s.Count())
	}
}

// P12.6: what follows.

// checkNoLoop checks that no node is within its own kids.
func checkNoLoop(t *testing.T, s *Store) {
	t.Helper()
	for n := range len(s.nodes) {
		for _, kid := range s.Kids(n) {
			if s.Within(n, kid) {
				t.Errorf("%d is within its kid %d", n, kid)
			}
		}
	}
}

func TestNoNodeIsWithinItsKids(t *testing.T) {
	// A ring of types, each link but the last one of which can be made.
	for length := 1; length <= 6; length++ {
		s := New(20)
		for k := range length {
			play(t, s, fmt.Sprintf("v%d", k))
		}
		for k := range length {
			play(t, s, fmt.Sprintf("p0,%d", first+k))
		}
		for k := range length {
			want := api.OK
			if k == length-1 {
				want = api.ErrLoop
			}
			if e := s.Link(first+k, first+length+(k+1)%length); e != want {
				t.Error(length, k, e)
			}
			checkNoLoop(t, s)
		}
	}
}

// replaced is t with other types for its variables.
func replaced(t api.Type, types map[int]api.Type) api.Type {
	if other, ok := types[t.N]; ok && t.Kind == api.TVar {
		return other
	}
	var kids []api.Type
	for _, kid := range t.Kids {
		kids = append(kids, replaced(kid, types))
	}
	t.Kids = kids
	return t
}

// checkCopyIsTheSame checks that a copy of n is the type of n with the types of
// to for the variables from, and that it can be made.
func checkCopyIsTheSame(t *testing.T, s *Store, n int, from, to []int) {
	t.Helper()
	types := map[int]api.Type{}
	for k, v := range from {
		types[s.Root(v)], _ = s.Read(to[k])
	}
	was, _ := s.Read(n)
	copied, e := s.Copy(n, from, to)
	if e != api.OK {
		t.Error(n, from, to, e)
	}
	if got, _ := s.Read(copied); !typ.Same(got, replaced(was, types)) {
		t.Errorf("a copy of %s is %s", text(was), text(got))
	}
	if now, _ := s.Read(n); !typ.Same(now, was) {
		t.Errorf("%s became %s", text(was), text(now))
	}
}

func TestCopyIsTheSameTypeWithOtherVariables(t *testing.T) {
	for _, script := range []string{"p5,6 l8 f9,7 p10,9", "p5,6 l8 f9,7 p10,9 =6,4", "l5 p8,8 p9,9 p10,10 f11,6", "l5 p8,6 =6,8 f9,7", "p5,6 =7,8 f7,7 l9"} {
		for _, c := range [][2]string{{"5", "7"}, {"5", "0"}, {"5", "5"}, {"5", "9"}} {
			s := played(t, 20000, "v1 v2 v3 "+script)
			for n := range len(s.nodes) {
				checkCopyIsTheSame(t, s, n, numbers(c[0]), numbers(c[1]))
				checkCopyIsTheSame(t, s, n, s.Vars(n), make([]int, len(s.Vars(n))))
			}
			checkNoLoop(t, s)
		}
	}
}

// Against the model: all calls, in any order.

// driven does the same in a store and in its model.
type driven struct {
	*testing.T
	s *Store
	m *model
	// log tells what was done.
	log []string
}

func newDriven(t *testing.T, limit int) *driven {
	return &driven{T: t, s: New(limit), m: newModel(limit)}
}

// step takes a call and its arguments from next, which returns numbers from 0 on
// that are less than the one given.
func (c *driven) step(next func(below int) int) {
	c.Helper()
	top := len(c.m.nodes)
	node := func() int { return next(top+next(20)/19*2) - next(40)/39 }
	nodes := func(n int) []int {
		var l []int
		for range n {
			l = append(l, node())
		}
		return l
	}
	x, y := node(), node()
	switch call := next(16); call {
	case 0, 1, 2:
		level := next(6) - next(12)/11
		c.both(fmt.Sprint("Var ", level), func(s stores) string { return fmt.Sprint(s.Var(level)) })
	case 3, 4, 5, 6:
		kind := api.TPair + next(3) - next(40)/39*3
		c.both(fmt.Sprint("Make ", kind, x, y), func(s stores) string { return fmt.Sprint(s.Make(kind, x, y)) })
	case 7:
		t := fuzzed(next, 3)
		c.both("Put "+text(t), func(s stores) string { return fmt.Sprint(s.Put(t)) })
	case 8, 9, 10, 11:
		c.both(fmt.Sprint("Link ", x, y), func(s stores) string { return fmt.Sprint(s.Link(x, y)) })
	case 12:
		level := next(5) - next(12)/11
		c.both(fmt.Sprint("Lower ", x, level), func(s stores) string { return fmt.Sprint(s.Lower(x, level)) })
	case 13, 14:
		from := nodes(next(3))
		if call == 13 {
			from = c.m.Vars(x)
		}
		to := nodes(len(from) + next(12)/11)
		c.both(fmt.Sprint("Copy ", x, from, to), func(s stores) string { return fmt.Sprint(s.Copy(x, from, to)) })
	case 15:
		c.both(fmt.Sprint("Read ", x), func(s stores) string {
			t, e := s.Read(x)
			return fmt.Sprint(text(t), e)
		})
	}
}

// both makes a call in both, and checks that they return the same and say the
// same of everything afterwards.
func (c *driven) both(what string, call func(s stores) string) {
	c.Helper()
	c.log = append(c.log, what)
	got, want := call(c.s), call(c.m)
	if got != want {
		c.Fatalf("%s: %s, want %s", strings.Join(c.log, "; "), got, want)
	}
	top := len(c.m.nodes) + 1
	if now, want := state(c.s, top), state(c.m, top); now != want {
		c.Fatalf("%s:\n%s, want\n%s", strings.Join(c.log, "; "), now, want)
	}
}

// fuzzed builds a type, which is seldom not right or not closed.
func fuzzed(next func(below int) int, depth int) api.Type {
	t := base(api.TInt + next(5))
	if depth > 0 && next(2) == 1 {
		t.Kind = api.TPair + next(3)
	}
	if next(40) == 39 {
		t.Kind, t.N = next(11), next(3)-1
	}
	kids := map[int]int{api.TPair: 2, api.TFun: 2, api.TList: 1}[t.Kind]
	if next(40) == 39 {
		kids = next(4)
	}
	for range kids {
		t.Kids = append(t.Kids, fuzzed(next, depth-1))
	}
	return t
}

func TestManyCallsAgainstTheModel(t *testing.T) {
	for seed := range int64(400) {
		random := rand.New(rand.NewSource(seed))
		c := newDriven(t, []int{3, 8, 15, 30, 60, 200}[seed%6])
		for range 40 {
			c.step(random.Intn)
		}
		checkNoLoop(t, c.s)
	}
}

func FuzzStore(f *testing.F) {
	f.Add(uint8(10), []byte{0, 1, 2, 3, 4, 5, 6, 7, 8, 9})
	f.Add(uint8(200), []byte("some variables, pairs, links and copies of all of them"))
	f.Fuzz(func(t *testing.T, limit uint8, calls []byte) {
		if len(calls) > 300 {
			return
		}
		c := newDriven(t, int(limit)-5)
		next := func(below int) int {
			if len(calls) == 0 {
				return 0
			}
			n := int(calls[0]) % below
			calls = calls[1:]
			return n
		}
		for len(calls) > 0 {
			c.step(next)
		}
		checkNoLoop(t, c.s)
	})
}

// Large stores.

// shallow makes calls that are as deep as a type, which may be deeper than a
// store, end the program.
func shallow() func() {
	before := debug.SetMaxStack(64 << 20)
	return func() { debug.SetMaxStack(before) }
}

func TestDeepNodes(t *testing.T) {
	defer shallow()()
	for _, kids := range []func(n int) (kind, a, b int){
		func(n int) (int, int, int) { return api.TList, n, 0 },
		func(n int) (int, int, int) { return api.TPair, n, 6 },
		func(n int) (int, int, int) { return api.TPair, 6, n },
		func(n int) (int, int, int) { return api.TFun, n, n },
	} {
		s := New(api.MaxLimit)
		play(t, s, "v7 v3 v2 v9")
		n := 5
		depth := (api.MaxLimit - 4) / 2
		for range depth {
			kind, a, b := kids(n)
			n, _ = s.Make(kind, a, b)
		}
		if vars := s.Vars(n); len(vars) == 0 || !s.Static(n) || !s.Within(5, n) || s.Within(7, n) || s.Within(4, n) {
			t.Error(vars)
		}
		if e := s.Link(5, n); e != api.ErrLoop {
			t.Error(e)
		}
		if e := s.Lower(n, 6); e != api.OK || s.Level(5) != 6 {
			t.Error(e, s.Level(5))
		}
		copied, e := s.Copy(n, []int{5}, []int{8})
		checkNumber(t, "Copy", copied, e, n+depth, api.OK)
		if e := s.Link(7, copied); e != api.OK || s.Level(8) != 2 || s.Level(5) != 6 {
			t.Error(e, s.Level(8), s.Level(5))
		}
		if e := s.Link(5, 4); e != api.OK || s.Static(n) || !s.Static(7) {
			t.Error(e)
		}
		if x, e := s.Copy(copied, []int{8}, []int{0}); x != 0 || e != api.ErrLimit {
			t.Error(x, e)
		}
	}
}

func TestReadOfDeepNodes(t *testing.T) {
	defer shallow()()
	s := New(api.MaxLimit)
	play(t, s, "v1")
	n := 5
	for range api.MaxLimit/2 - 1 {
		n, _ = s.Make(api.TList, n, 0)
	}
	x, e := s.Read(n)
	if typ.Size(x) != api.MaxLimit/2 || e != api.OK || s.Count() != api.MaxLimit {
		t.Error(typ.Size(x), e, s.Count())
	}
	for x.Kind == api.TList {
		x = x.Kids[0]
	}
	if text(x) != text(number(5)) {
		t.Error(text(x))
	}
}

// chain is a type around which another one is put so many times.
func chain(depth int, around func(t api.Type) api.Type, t api.Type) api.Type {
	for range depth {
		t = around(t)
	}
	return t
}

func TestPutOfDeepTypes(t *testing.T) {
	defer shallow()()
	for _, put := range []func(t api.Type) api.Type{
		list,
		func(t api.Type) api.Type { return pair(t, b) },
		func(t api.Type) api.Type { return fun(u, t) },
	} {
		s := New(api.MaxLimit)
		n, e := s.Put(chain(api.MaxLimit+1, put, d))
		checkNumber(t, "Put of a type that is too deep", n, e, 0, api.ErrLimit)
		n, e = s.Put(chain(1<<19, put, d))
		checkNumber(t, "Put of a type that is far too deep", n, e, 0, api.ErrLimit)
		for _, wrong := range []api.Type{{}, v, treeOf(api.TList), {Kind: api.TInt, N: 1}} {
			n, e = s.Put(chain(1<<19, put, wrong))
			checkNumber(t, "Put of a deep type that is wrong", n, e, 0, api.ErrArg)
		}
		if s.Count() != 0 {
			t.Error(s.Count())
		}
		n, e = s.Put(chain(api.MaxLimit, put, d))
		checkNumber(t, "Put of a deep type", n, e, first+api.MaxLimit-1, api.OK)
		if s.Count() != api.MaxLimit || s.Static(n) || s.Kind(n) != put(i).Kind || !s.Within(first, n) {
			t.Error(s.Count(), s.Static(n), s.Kind(n))
		}
	}
}

func TestPutOfTypesWithOnePartAgainAndAgain(t *testing.T) {
	double := func(t api.Type) api.Type { return pair(t, t) }
	s := New(api.MaxLimit)
	n, e := s.Put(chain(17, double, i))
	checkNumber(t, "Put of 2^17 - 1 pairs", n, e, 0, api.ErrLimit)
	n, e = s.Put(chain(16, double, i))
	checkNumber(t, "Put of 2^16 - 1 pairs", n, e, first+1<<16-2, api.OK)
	if s.Count() != 1<<16-1 || fmt.Sprint(s.Kids(n)) != fmt.Sprint([]int{first + 1<<15 - 2, first + 1<<16 - 3}) {
		t.Error(s.Count(), s.Kids(n))
	}
	n, e = s.Put(list(list(i)))
	checkNumber(t, "Put of two lists", n, e, 0, api.ErrLimit)
	n, e = s.Put(list(i))
	checkNumber(t, "Put of one list", n, e, first+1<<16-1, api.OK)
}

func TestNodesThatLieWithinEachOtherAgainAndAgain(t *testing.T) {
	// The type of the last node has far more nodes than there are numbers.
	s := New(3000)
	play(t, s, "v5 v3 p5,6")
	n := 7
	for range 1000 {
		n, _ = s.Make(api.TPair, n, n)
	}
	if fmt.Sprint(s.Vars(n)) != "[5 6]" || !s.Static(n) || s.Within(4, n) || !s.Within(6, n) {
		t.Error(s.Vars(n))
	}
	if s.Lower(n, 4) != api.OK || levels(s, 5, 6) != "[4 3]" || s.Link(6, n) != api.ErrLoop {
		t.Error(levels(s, 5, 6))
	}
	if x, e := s.Read(n); x.Kind != 0 || e != api.ErrLimit || s.Count() != 1003 {
		t.Error(x.Kind, e, s.Count())
	}
	if x, e := s.Read(7 + 8); typ.Size(x) != 1<<10-1 || e != api.OK || s.Count() != 1003+1<<10-1 {
		t.Error(typ.Size(x), e, s.Count())
	}
	if copied, e := s.Copy(n, []int{5}, []int{0}); copied != 0 || e != api.ErrLimit {
		t.Error(copied, e)
	}
	copied, e := s.Copy(7+500, []int{5}, []int{4})
	checkNumber(t, "Copy", copied, e, n+501, api.OK)
	if s.Static(copied) || fmt.Sprint(s.Vars(copied)) != "[6]" || fmt.Sprint(s.Kids(copied)) != fmt.Sprint([]int{copied - 1, copied - 1}) {
		t.Error(s.Vars(copied), s.Kids(copied))
	}
}

func TestManyLinks(t *testing.T) {
	const most = api.MaxLimit
	for _, ends := range []func(k int) (v, n int){
		func(k int) (int, int) { return first + k, first + k + 1 },
		func(k int) (int, int) { return first + most - 1 - k, first + most - 2 - k },
		func(k int) (int, int) { return first, first + k + 1 },
		func(k int) (int, int) { return first + k + 1, first + k },
	} {
		s := New(most)
		for k := range most {
			s.Var(k)
		}
		for k := range most - 1 {
			v, n := ends(k)
			if e := s.Link(v, n); e != api.OK {
				t.Fatal(k, e)
			}
		}
		root := s.Root(first)
		for n := first; n < first+most; n++ {
			if s.Root(n) != root || s.Level(n) != 0 {
				t.Fatal(n, s.Root(n), s.Level(n))
			}
		}
	}
}

func TestManyVariables(t *testing.T) {
	s := New(api.MaxLimit)
	const most = 20000
	n := nodeInt
	var from, to []int
	for k := range most {
		v, _ := s.Var(k)
		n, _ = s.Make(api.TPair, n, v)
		from, to = append(from, v), append(to, nodeDyn)
	}
	if vars := s.Vars(n); !slices.Equal(vars, from) {
		t.Error(len(vars))
	}
	to[0] = nodeBool
	copied, e := s.Copy(n, from, to)
	checkNumber(t, "Copy", copied, e, n+most, api.OK)
	if fmt.Sprint(s.Kids(n+1), s.Kids(n+2)) != fmt.Sprint([]int{nodeInt, nodeBool}, []int{n + 1, nodeDyn}) || len(s.Vars(copied)) != 0 {
		t.Error(s.Kids(n+1), s.Kids(n+2))
	}
	if got, e := s.Copy(n, append(slices.Clone(from), from[0]), append(to, 0)); got != 0 || e != api.ErrArg {
		t.Error(got, e)
	}
	v, _ := s.Var(3)
	if e := s.Link(v, n); e != api.OK || s.Level(from[most-1]) != 3 || s.Level(from[2]) != 2 {
		t.Error(e)
	}
}

// The rules.

// spare returns t with lists of kids behind which there is more.
func spare(t api.Type) api.Type {
	l := make([]api.Type, len(t.Kids), len(t.Kids)+3)
	for k := range t.Kids {
		l[k] = spare(t.Kids[k])
	}
	for k := range 3 {
		l[:cap(l)][len(l)+k] = api.Type{Kind: 70 + k, N: 7}
	}
	t.Kids = l
	return t
}

// whole is the text of t with what is behind its lists of kids.
func whole(t api.Type) string {
	var l strings.Builder
	for _, kid := range t.Kids[:cap(t.Kids)] {
		l.WriteString(whole(kid))
	}
	return fmt.Sprintf("<%d.%d.%d%s>", t.Kind, t.N, len(t.Kids), l.String())
}

func TestArgumentsAreNotChanged(t *testing.T) {
	for _, x := range append(append(wrongTypes(), openTypes()...), append(larger(), rightTypes(4, i, d)...)...) {
		st := New(10)
		given := spare(x)
		before := whole(given)
		n, e := st.Put(given)
		if got := whole(given); got != before {
			t.Errorf("%s became %s", before, got)
		}
		m, other := New(10).Put(x)
		checkNumber(t, "Put with more behind the kids", n, e, m, other)
	}
	st := played(t, 30, "v1 v2 p5,6 l7")
	from, to := []int{5, 6, 91, 92, 93}, []int{6, 0, 94, 95, 96}
	for _, n := range []int{8, 7, 5, 0, 99} {
		st.Copy(n, from[:2], to[:2])
		st.Copy(n, from[:1], to[:2])
		st.Copy(n, from[1:3:4], to[:2])
		if fmt.Sprint(from, to) != "[5 6 91 92 93] [6 0 94 95 96]" {
			t.Fatal(n, from, to)
		}
	}
}

func TestNothingOfTheArgumentsIsKept(t *testing.T) {
	given := fun(pair(i, b), list(s))
	st := New(30)
	st.Put(given)
	play(t, st, "v1 v2 p8,9")
	from, to := []int{8, 9}, []int{9, 0}
	st.Copy(10, from, to)
	top := first + st.Count()
	checkKept(t, st, "a change outside", func() {
		given.Kids[0].Kids[0], given.Kids[1] = d, list(list(d))
		from[0], to[0], to[1] = 0, 4, 4
	})
	kids, vars := st.Kids(7), st.Vars(10)
	before := state(st, top)
	kids[0], vars[0] = 4, 4
	if after := state(st, top); after != before {
		t.Error("a result that is changed outside changes the store")
	}
}

func TestStoresHaveNothingInCommon(t *testing.T) {
	random := rand.New(rand.NewSource(1))
	c, other := newDriven(t, 60), newDriven(t, 25)
	for range 150 {
		c.step(random.Intn)
		other.step(random.Intn)
	}
	top := len(c.m.nodes) + 1
	if state(c.s, top) != state(c.m, top) || state(other.s, 40) != state(other.m, 40) {
		t.Error("one store hangs on the other one")
	}
}

func TestNilAndEmptyLists(t *testing.T) {
	st := played(t, 30, "v1 v2 p5,6")
	for _, from := range [][]int{nil, {}} {
		for _, to := range [][]int{nil, {}, make([]int, 0, 4)} {
			checkKept(t, st, "Copy", func() {
				n, e := st.Copy(7, from, to)
				checkNumber(t, "Copy", n, e, 7, api.OK)
			})
		}
	}
	empty := api.Type{Kind: api.TInt, Kids: []api.Type{}}
	n, e := st.Put(pair(empty, list(empty)))
	checkNumber(t, "Put", n, e, 9, api.OK)
	if fmt.Sprint(st.Kids(9), st.Kids(8)) != "[0 8] [0]" {
		t.Error(st.Kids(9), st.Kids(8))
	}
	n, e = st.Put(empty)
	checkNumber(t, "Put", n, e, 0, api.OK)
}

func TestAStoreThatNewDidNotMake(t *testing.T) {
	st := new(Store)
	for n := -1; n < 7; n++ {
		for m := -1; m < 7; m++ {
			st.Make(api.TPair, n, m)
			st.Link(n, m)
			st.Lower(n, m)
			st.Within(n, m)
			st.Copy(n, []int{m}, []int{n})
		}
		st.Var(n)
		st.Read(n)
		tells(st, n)
	}
	for _, x := range append(rightTypes(3, i, d, v), wrongTypes()...) {
		st.Put(x)
	}
	if st.Count() != 0 {
		t.Error(st.Count())
	}
}
