package pats

import (
	"fmt"
	"math"
	"slices"
	"strings"
	"testing"

	"surety/api"
	"surety/store"
)

const first = 5 // the first node that is created; those ahead of it are int, bool, string, unit and ?

// extremes are numbers that are no nodes of any store.
var extremes = []int{-1, -2, -5, math.MinInt, math.MinInt + 1, api.MaxLimit + first, 1 << 32, 1<<32 + 1, 1 << 62, math.MaxInt - 1, math.MaxInt}

// played is a store in which that was done what a script says, which has no errors:
// v1 creates a variable of level 1, p5,6 a pair, l5 a list, f5,6 a function, and
// =5,6 links 5 to 6.
func played(t testing.TB, limit int, script string) *store.Store {
	t.Helper()
	s := store.New(limit)
	for _, step := range strings.Fields(script) {
		var x, y int
		fmt.Sscanf(step[1:], "%d,%d", &x, &y)
		e := api.OK
		switch step[0] {
		case 'v':
			_, e = s.Var(x)
		case 'p':
			_, e = s.Make(api.TPair, x, y)
		case 'l':
			_, e = s.Make(api.TList, x, y)
		case 'f':
			_, e = s.Make(api.TFun, x, y)
		case '=':
			e = s.Link(x, y)
		default:
			t.Fatal(script, step)
		}
		if e != api.OK {
			t.Fatalf("%s in %s: %v", step, script, e)
		}
	}
	return s
}

// picture shows the nodes from 5 on as in a script: v1 is a variable of level 1,
// p5,6 a pair, l5 a list, f5,6 a function; but =6 is a node whose root is 6.
func picture(s *store.Store) string {
	var l []string
	for n := first; s.Root(n) >= 0; n++ {
		var kids []string
		for _, kid := range s.Kids(n) {
			kids = append(kids, fmt.Sprint(kid))
		}
		below := strings.Join(kids, ",")
		switch {
		case s.Root(n) != n:
			l = append(l, fmt.Sprint("=", s.Root(n)))
		case s.Kind(n) == api.TVar:
			l = append(l, fmt.Sprint("v", s.Level(n)))
		default:
			l = append(l, string(" plf"[s.Kind(n)-api.TVar])+below)
		}
	}
	return fmt.Sprintf("%s, %d", strings.Join(l, " "), s.Count())
}

// came is what a call of Into came to. Its names are those that were returned, with
// their nodes: x=6 y=7.
type came struct {
	names string
	bad   api.Bad
	e     api.Errno
}

func result(names []string, nodes []int, bad api.Bad, e api.Errno) came {
	var l []string
	for k := range max(len(names), len(nodes)) {
		name, node := "missing", "missing"
		if k < len(names) {
			name = names[k]
		}
		if k < len(nodes) {
			node = fmt.Sprint(nodes[k])
		}
		l = append(l, name+"="+node)
	}
	return came{strings.Join(l, " "), bad, e}
}

func did(s *store.Store, p api.Pat, n, level int) came { return result(Into(s, p, n, level)) }

func bounds(names string) came { return came{names: names} }

func failed(e api.Errno) came { return came{e: e} }

// clash is what it comes to if a part of a pattern clashes, which is the first one
// with these bytes.
func clash(pattern, part string, left, right int) came {
	at := len(before) + strings.Index(pattern, part)
	return came{"", api.Bad{At: api.Span{From: at, To: at + len(part)}, Why: api.ErrClash, Left: left, Right: right}, api.ErrClash}
}

// checkRoom calls Into in the store of a script, which has room for so many nodes more,
// and checks what it returns and what the nodes are then.
func checkRoom(t *testing.T, room int, script, pattern string, n, level int, want came, nodes string) {
	t.Helper()
	count := played(t, api.MaxLimit, script).Count()
	s := played(t, count+room, script)
	got := did(s, read(t, pattern), n, level)
	now, counted, _ := strings.Cut(picture(s), ", ")
	if created := fmt.Sprint(len(strings.Fields(nodes))); got != want || now != nodes || counted != created {
		t.Errorf("%s with room for %d, then Into of %s, %d, %d: %v %s, %s, want %v %s", script, room, pattern, n, level, got, now, counted, want, nodes)
	}
}

func check(t *testing.T, script, pattern string, n, level int, want came, nodes string) {
	t.Helper()
	checkRoom(t, 50, script, pattern, n, level, want, nodes)
}

// P14.2: what is not right.

func TestExampleOfInto(t *testing.T) {
	// (bool * int) list
	const p = "x :: (y, 1)"
	check(t, "p1,0 l5", p, 6, 2, clash(p, "(y, 1)", api.TList, api.TPair), "p1,0 l5 =5 l7 v2 v2 p9,10")
}

// checkArg calls Into, which is to return ErrArg and to change nothing.
func checkArg(t *testing.T, s *store.Store, p api.Pat, n, level int) {
	t.Helper()
	was := picture(s)
	if got := did(s, p, n, level); got != failed(api.ErrArg) {
		t.Errorf("Into of %s, %d, %d: %v", patText(p), n, level, got)
	}
	if now := picture(s); now != was {
		t.Errorf("Into of %s, %d, %d: %s became %s", patText(p), n, level, was, now)
	}
}

// someStores are stores with and without room.
func someStores(t *testing.T) []*store.Store {
	return []*store.Store{store.New(0), store.New(20), played(t, 3, "v1 v2 p5,4"), played(t, 20, "v1 v2 p5,6 =6,4 l7"), new(store.Store)}
}

func TestIntoOfPatternsThatAreNotRight(t *testing.T) {
	for _, s := range someStores(t) {
		for _, wrong := range wrongPats() {
			for _, p := range append(aroundPat(wrong), wrong) {
				for n := range first + s.Count() {
					checkArg(t, s, p, n, 1)
				}
				checkArg(t, s, p, first, -1)
				checkArg(t, s, p, -1, 0)
			}
		}
		// Also behind a part that clashes.
		checkArg(t, s, pat(api.PPair, pat(api.PInt), pat(99)), 0, 0)
		checkArg(t, s, pat(api.PPair, pat(api.PInt), pat(api.PCons, named("x"), named("x"))), 4, 0)
	}
}

func TestIntoOfNumbersThatAreNoNodes(t *testing.T) {
	for _, s := range someStores(t) {
		top := first + s.Count()
		if s.Root(0) == -1 {
			top = 0
		}
		for _, wrong := range append([]int{top, top + 1}, extremes...) {
			for _, p := range rightPats(3) {
				checkArg(t, s, p, wrong, 0)
				checkArg(t, s, p, wrong, 3)
				checkArg(t, s, p, wrong, -1)
			}
		}
	}
	// Each store says for itself what its nodes are.
	small, great := store.New(10), played(t, 10, "v1 v1")
	checkArg(t, small, named("x"), 5, 1)
	if got := did(great, named("x"), 5, 1); got != bounds("x=5") {
		t.Error(got)
	}
}

func TestIntoOfNegativeLevels(t *testing.T) {
	for _, s := range someStores(t) {
		for _, level := range []int{-1, -2, -1 << 32, math.MinInt, math.MinInt + 1} {
			for _, p := range rightPats(3) {
				for n := range first + s.Count() {
					checkArg(t, s, p, n, level)
				}
			}
		}
	}
}

// P14.2: PAny and PName.

func TestNamesNeedNothingOfANode(t *testing.T) {
	for _, room := range []int{0, 10} {
		const script, nodes = "v3 p0,4 l5 f4,4 v2 v1 v0 v9 =9,6 =10,9 =11,4 =12,5", "v3 p0,4 l5 f4,4 =6 =6 =4 =5"
		for n := range first + 8 {
			for _, level := range []int{0, 1, 7, math.MaxInt} {
				checkRoom(t, room, script, "_", n, level, came{}, nodes)
				// The node is the one that was given, whatever its root is.
				checkRoom(t, room, script, "x", n, level, bounds(fmt.Sprint("x=", n)), nodes)
				checkRoom(t, room, script, "y'", n, level, bounds(fmt.Sprint("y'=", n)), nodes)
			}
		}
	}
}

// P14.2: PInt, PBool, PStr, PUnit.

func TestBaseTypes(t *testing.T) {
	const script = "v3 p0,1 l0 f0,1 v2 v1 v1 v4 =9,7 =10,1 =11,4 v3 =12,13"
	const nodes = "%s p0,1 l0 f0,1 =7 =1 =4 %s %s"
	kinds := []int{api.TInt, api.TBool, api.TStr, api.TUnit, api.TDyn, api.TVar, api.TPair, api.TList, api.TFun, api.TList, api.TBool, api.TDyn, api.TVar, api.TVar}
	for k, p := range []string{"5", "true", `"a"`, "()"} {
		kind := api.TInt + k
		for n, other := range kinds {
			want := clash(p, p, other, kind)
			if other == kind || other == api.TDyn || other == api.TVar {
				want = came{}
			}
			five, twelve, thirteen := "v3", "=13", "v3"
			switch n {
			case 5:
				five = fmt.Sprint("=", k)
			case 12, 13:
				twelve, thirteen = fmt.Sprint("=", k), fmt.Sprint("=", k)
			}
			// They need no room.
			for _, room := range []int{0, 10} {
				checkRoom(t, room, script, p, n, 2, want, fmt.Sprintf(nodes, five, twelve, thirteen))
			}
		}
	}
	for _, p := range []string{"~1", "0", "9223372036854775807"} {
		check(t, "v1", p, 5, 0, came{}, "=0")
	}
	check(t, "v1", "false", 5, 0, came{}, "=1")
	check(t, "v1", `""`, 5, 0, came{}, "=2")
}

// P14.2: PPair, PNil, PCons.

func TestPairs(t *testing.T) {
	const p = "(x, y)"
	for _, c := range []struct {
		script string
		n      int
		want   came
		nodes  string
	}{
		{"v3", 5, bounds("x=6 y=7"), "=8 v2 v2 p6,7"},
		{"v3", 4, bounds("x=6 y=7"), "v3 v0 v0 p6,7"},
		{"v1", 5, bounds("x=6 y=7"), "=8 v1 v1 p6,7"},
		{"v0", 5, bounds("x=6 y=7"), "=8 v0 v0 p6,7"},
		{"v3 v1 =5,6", 5, bounds("x=7 y=8"), "=9 =9 v1 v1 p7,8"},
		{"v3 =5,4", 5, bounds("x=6 y=7"), "=4 v0 v0 p6,7"},
		{"p0,1", 5, bounds("x=6 y=7"), "p0,1 =0 =1 p6,7"},
		{"p4,4", 5, bounds("x=6 y=7"), "p4,4 v0 v0 p6,7"},
		{"p4,3", 5, bounds("x=6 y=7"), "p4,3 v0 =3 p6,7"},
		{"v3 p5,4", 6, bounds("x=7 y=8"), "=7 p5,4 v2 v0 p7,8"},
		{"v1 p5,5", 6, bounds("x=7 y=8"), "=8 p5,5 =8 v1 p7,8"},
		{"v1 v5 p5,6", 7, bounds("x=8 y=9"), "=8 =9 p5,6 v1 v2 p8,9"},
		{"v3 p0,2 =5,6", 5, bounds("x=7 y=8"), "=6 p0,2 =0 =2 p7,8"},
		{"l0 p1,5", 6, bounds("x=7 y=8"), "l0 p1,5 =1 =5 p7,8"},
		{"v3 l5 p6,1", 7, bounds("x=8 y=9"), "v2 l5 p6,1 =6 =1 p8,9"},
		// The variable becomes a list of one, as there is a ? within the kid.
		{"l4 p5,0", 6, bounds("x=7 y=8"), "l4 p5,0 =11 =0 p7,8 v0 l10"},
		{"", 0, clash(p, p, api.TInt, api.TPair), "v2 v2 p5,6"},
		{"", 1, clash(p, p, api.TBool, api.TPair), "v2 v2 p5,6"},
		{"", 2, clash(p, p, api.TStr, api.TPair), "v2 v2 p5,6"},
		{"", 3, clash(p, p, api.TUnit, api.TPair), "v2 v2 p5,6"},
		{"v3 l0", 6, clash(p, p, api.TList, api.TPair), "v3 l0 v2 v2 p7,8"},
		{"v3 f5,5", 6, clash(p, p, api.TFun, api.TPair), "v3 f5,5 v2 v2 p7,8"},
		{"v3 f5,5 v1 =7,6", 7, clash(p, p, api.TFun, api.TPair), "v1 f5,5 =6 v2 v2 p8,9"},
	} {
		check(t, c.script, p, c.n, 2, c.want, c.nodes)
	}
}

func TestEmptyLists(t *testing.T) {
	const p = "[]"
	for _, c := range []struct {
		script string
		n      int
		want   came
		nodes  string
	}{
		{"v3", 5, came{}, "=7 v2 l6"}, {"v1", 5, came{}, "=7 v1 l6"}, {"v3", 4, came{}, "v3 v0 l6"},
		{"v3 v1 =5,6", 5, came{}, "=8 =8 v1 l7"}, {"v3 =5,4", 5, came{}, "=4 v0 l6"},
		{"l0", 5, came{}, "l0 =0 l6"}, {"l4", 5, came{}, "l4 v0 l6"}, {"v1 l5", 6, came{}, "=7 l5 v1 l7"}, {"v9 l5", 6, came{}, "=7 l5 v2 l7"},
		{"l4 l5", 6, came{}, "l4 l5 =10 l7 v0 l9"}, {"v3 p5,5 l6", 7, came{}, "v2 p5,5 l6 =6 l8"},
		{"", 0, clash(p, p, api.TInt, api.TList), "v2 l5"}, {"", 1, clash(p, p, api.TBool, api.TList), "v2 l5"}, {"", 2, clash(p, p, api.TStr, api.TList), "v2 l5"}, {"", 3, clash(p, p, api.TUnit, api.TList), "v2 l5"},
		{"p0,1", 5, clash(p, p, api.TPair, api.TList), "p0,1 v2 l6"}, {"f0,1", 5, clash(p, p, api.TFun, api.TList), "f0,1 v2 l6"}, {"v3 p0,1 =5,6", 5, clash(p, p, api.TPair, api.TList), "=6 p0,1 v2 l7"},
	} {
		check(t, c.script, p, c.n, 2, c.want, c.nodes)
		// A PCons needs the same of the node.
		if c.want.e == api.OK {
			m := first + played(t, 50, c.script).Count() + 1 // behind its variable
			check(t, c.script, "x :: y", c.n, 2, bounds(fmt.Sprintf("x=%d y=%d", m-1, m)), c.nodes)
		} else {
			check(t, c.script, "x :: y", c.n, 2, clash("x :: y", "x :: y", c.want.bad.Left, api.TList), c.nodes)
		}
	}
}

func TestTheRestOfAListIsTheList(t *testing.T) {
	for _, c := range []struct {
		p     string
		want  string
		nodes string
	}{
		{"x :: y", "x=6 y=7", "=7 v2 l6"},
		{"y :: x", "y=6 x=7", "=7 v2 l6"},
		{"_ :: x", "x=7", "=7 v2 l6"},
		{"x :: _", "x=6", "=7 v2 l6"},
		{"x :: []", "x=6", "=7 =8 l6 v2 l8"},
		{"1 :: x", "x=7", "=7 =0 l6"},
		{"x :: y :: z", "x=6 y=8 z=9", "=7 =8 l6 v2 l8"},
		{"x :: y :: z :: []", "x=6 y=8 z=10", "=7 =12 l6 =12 l8 =12 l10 v2 l12"},
		{"(x :: y) :: z", "x=8 y=9 z=7", "=7 =9 l6 v2 l8"},
		{"[] :: x", "x=7", "=7 =9 l6 v2 l8"},
		{"1 :: x :: y", "x=8 y=9", "=7 =0 l6 =0 l8"},
		{"x :: 1 :: y", "x=6 y=9", "=7 =0 l6 =0 l8"},
		{"(x, y) :: z", "x=8 y=9 z=7", "=7 =10 l6 v2 v2 p8,9"},
	} {
		check(t, "v3", c.p, 5, 2, bounds(c.want), c.nodes)
	}
	// What is known of one element is known of the next ones.
	const p = "(1, x) :: (true, y) :: z"
	check(t, "v3", p, 5, 2, clash(p, "true", api.TInt, api.TBool), "=7 =10 l6 =0 =14 p8,9 =10 l11 =0 v2 p13,14")
	const q = "(1, x) :: (y, true) :: z"
	check(t, "v3", q, 5, 2, bounds("x=9 y=13 z=12"), "=7 =10 l6 =0 =1 p8,9 =10 l11 =0 =1 p13,14")
	const r = "x :: (y, 1)"
	check(t, "v3", r, 5, 2, clash(r, "(y, 1)", api.TList, api.TPair), "=7 v2 l6 v2 v2 p8,9")
}

func TestTheOrderOfTheTree(t *testing.T) {
	for _, c := range []struct{ p, want, nodes string }{
		{"((a, b), (c, d))", "a=9 b=10 c=12 d=13", "=8 =11 =14 p6,7 v2 v2 p9,10 v2 v2 p12,13"},
		{"((d, c), (b, a))", "d=9 c=10 b=12 a=13", "=8 =11 =14 p6,7 v2 v2 p9,10 v2 v2 p12,13"},
		{"(((a, b), c), d)", "a=12 b=13 c=10 d=7", "=8 =11 v2 p6,7 =14 v2 p9,10 v2 v2 p12,13"},
		{"(d, (c, (b, a)))", "d=6 c=9 b=12 a=13", "=8 v2 =11 p6,7 v2 =14 p9,10 v2 v2 p12,13"},
		{"(x, y :: [])", "x=6 y=9", "=8 v2 =10 p6,7 =11 l9 v2 l11"},
		{"(x :: [], y :: _)", "x=9 y=13", "=8 =10 =14 p6,7 =11 l9 v2 l11 v2 l13"},
		{"(1, (x, (true, (y, ()))))", "x=9 y=15", "=8 =0 =11 p6,7 v2 =14 p9,10 =1 =17 p12,13 v2 =3 p15,16"},
		{"((), x) :: (y, \"a\") :: _", "x=9 y=13", "=7 =10 l6 =3 =2 p8,9 =10 l11 =3 =2 p13,14"},
	} {
		check(t, "v3", c.p, 5, 2, bounds(c.want), c.nodes)
	}
}

func TestTheFirstFault(t *testing.T) {
	for _, c := range []struct {
		script, p, part string
		n               int
		left, right     int
		nodes           string
	}{
		{"p1,0 p5,0", "((1, true), ())", "1", 6, api.TBool, api.TInt, "p1,0 p5,0 =5 =0 p7,8 =1 =0 p10,11"},
		{"p1,0 p5,0", "((_, true), ())", "true", 6, api.TInt, api.TBool, "p1,0 p5,0 =5 =0 p7,8 =1 =0 p10,11"},
		{"p1,0 p5,0", "((_, _), ())", "()", 6, api.TInt, api.TUnit, "p1,0 p5,0 =5 =0 p7,8 =1 =0 p10,11"},
		{"p1,0 p5,0", "([], ())", "[]", 6, api.TPair, api.TList, "p1,0 p5,0 =5 =0 p7,8 v2 l10"},
		{"p1,0 p0,5", "(_, (x, (y, z)))", "(y, z)", 6, api.TInt, api.TPair, "p1,0 p0,5 =0 =5 p7,8 =1 =0 p10,11 v2 v2 p13,14"},
		{"v3 p5,5", "(1, true)", "true", 6, api.TInt, api.TBool, "=0 p5,5 =0 =0 p7,8"},
		{"v3 p5,5", "(x, (1, x')) :: _", "(x, (1, x')) :: _", 6, api.TPair, api.TList, "v3 p5,5 v2 l7"},
		{"v3", "(1, (2, true :: 3 :: _))", "3", 5, api.TBool, api.TInt, "=8 =0 =11 p6,7 =0 =13 p9,10 =1 l12 =1 l14"},
		{"v3", "1 :: ()", "()", 5, api.TList, api.TUnit, "=7 =0 l6"},
		{"v3", "x :: 1", "1", 5, api.TList, api.TInt, "=7 v2 l6"},
		{"v3", "1 :: true :: _", "true", 5, api.TInt, api.TBool, "=7 =0 l6 =0 l8"},
		{"v3", "[] :: 1 :: _", "1", 5, api.TList, api.TInt, "=7 =9 l6 v2 l8 =9 l10"},
		{"v3", "(x, _) :: [] :: _", "[]", 5, api.TPair, api.TList, "=7 =10 l6 v2 v2 p8,9 =10 l11 v2 l13"},
		{"v3", "x :: (y :: 1) :: _", "1", 5, api.TList, api.TInt, "=7 =11 l6 =11 l8 v2 l10"},
		{"l0", "\"a\" :: x", "\"a\"", 5, api.TInt, api.TStr, "l0 =0 l6"},
		{"f0,1 l5", "x :: (y, z) :: _", "(y, z)", 6, api.TFun, api.TPair, "f0,1 l5 =5 l7 =5 l9 v2 v2 p11,12"},
		// Below ? all that clashes is in the pattern.
		{"v3", "1 :: true :: _", "true", 4, api.TInt, api.TBool, "v3 =0 l6 =0 l8"},
		{"v3", "(x, []) :: (y, 1) :: _", "1", 4, api.TList, api.TInt, "v3 =10 l6 =15 =12 p8,9 v0 l11 =10 l13 v0 =12 p15,16"},
	} {
		check(t, c.script, c.p, c.n, 2, clash(c.p, c.part, c.left, c.right), c.nodes)
	}
}

// P14.2: levels.

func TestLevels(t *testing.T) {
	for _, level := range []int{0, 1, 2, 999, api.MaxLevel, api.MaxLevel + 1, 1 << 40, math.MaxInt} {
		for _, other := range []int{0, 1, 3, api.MaxLevel, math.MaxInt} {
			script := fmt.Sprint("v", other)
			least := fmt.Sprint("v", min(level, other))
			check(t, script, "(x, y)", 5, level, bounds("x=6 y=7"), fmt.Sprintf("=8 %s %s p6,7", least, least))
			check(t, script, "x :: y", 5, level, bounds("x=6 y=7"), fmt.Sprintf("=7 %s l6", least))
			check(t, script, "[]", 5, level, came{}, fmt.Sprintf("=7 %s l6", least))
			// A variable of the node, as it is linked to one of the pattern.
			check(t, script+" p5,5", "(x, y)", 6, level, bounds("x=7 y=8"), fmt.Sprintf("=8 p5,5 =8 %s p7,8", least))
			check(t, script+" l5", "x :: y", 6, level, bounds("x=7 y=8"), fmt.Sprintf("=7 l5 %s l7", least))
			// Those further below have the level, too.
			check(t, script, "(x, y :: [])", 5, level, bounds("x=6 y=9"), fmt.Sprintf("=8 %s =10 p6,7 =11 l9 %s l11", least, least))
			check(t, script, "(a, (b, c))", 5, level, bounds("a=6 b=9 c=10"), fmt.Sprintf("=8 %s =11 p6,7 %s %s p9,10", least, least, least))
		}
		// With ? they come to be of level 0, but not those that were no part of it.
		check(t, "v9", "(x, y)", 4, level, bounds("x=6 y=7"), "v9 v0 v0 p6,7")
		check(t, "v9 p4,5", "(x, y)", 6, level, bounds("x=7 y=8"), fmt.Sprintf("=8 p4,5 v0 v%d p7,8", min(level, 9)))
		check(t, "v9 p4,5", "((w, x), y)", 6, level, bounds("w=10 x=11 y=8"), fmt.Sprintf("=8 p4,5 =12 v%d p7,8 v0 v0 p10,11", min(level, 9)))
		// What they become keeps a level that is less.
		check(t, "v0 v9 p5,6 l7", "x :: y", 8, level, bounds("x=9 y=10"), fmt.Sprintf("v0 v%d p5,6 l7 =7 l9", min(level, 9)))
	}
}

// P14.2: the limit.

// checkLimits calls Into in stores that have room for 0, 1 .. nodes more than the
// script creates, and checks which nodes there are then. Only the last one has enough.
func checkLimits(t *testing.T, script, p string, n int, last came, nodes ...string) {
	t.Helper()
	for room, now := range nodes {
		want := failed(api.ErrLimit)
		if room == len(nodes)-1 {
			want = last
		}
		checkRoom(t, room, script, p, n, 2, want, now)
	}
}

func TestTheLimit(t *testing.T) {
	checkLimits(t, "v3", "(x, y)", 5, bounds("x=6 y=7"), "v3", "v3 v2", "v3 v2 v2", "=8 v2 v2 p6,7")
	checkLimits(t, "v3", "[]", 5, came{}, "v3", "v3 v2", "=7 v2 l6")
	checkLimits(t, "v3", "x :: y", 5, bounds("x=6 y=7"), "v3", "v3 v2", "=7 v2 l6")
	checkLimits(t, "v3", "(x, y)", 4, bounds("x=6 y=7"), "v3", "v3 v2", "v3 v2 v2", "v3 v0 v0 p6,7")
	checkLimits(t, "v3", "[]", 4, came{}, "v3", "v3 v2", "v3 v0 l6")
	checkLimits(t, "v3", "x :: y", 4, bounds("x=6 y=7"), "v3", "v3 v2", "v3 v0 l6")
	checkLimits(t, "v3", "x :: y :: []", 5, bounds("x=6 y=8"),
		"v3", "v3 v2", "=7 v2 l6", "=7 v2 l6 v2", "=7 =8 l6 v2 l8", "=7 =8 l6 v2 l8 v2", "=7 =10 l6 =10 l8 v2 l10")
	checkLimits(t, "v3", "(x, (y, z))", 5, bounds("x=6 y=9 z=10"),
		"v3", "v3 v2", "v3 v2 v2", "=8 v2 v2 p6,7", "=8 v2 v2 p6,7 v2", "=8 v2 v2 p6,7 v2 v2", "=8 v2 =11 p6,7 v2 v2 p9,10")
	checkLimits(t, "v3", "((1, x), \"a\" :: _)", 5, bounds("x=10"),
		"v3", "v3 v2", "v3 v2 v2", "=8 v2 v2 p6,7", "=8 v2 v2 p6,7 v2", "=8 v2 v2 p6,7 v2 v2", "=8 =11 v2 p6,7 =0 v2 p9,10",
		"=8 =11 v2 p6,7 =0 v2 p9,10 v2", "=8 =11 =13 p6,7 =0 v2 p9,10 =2 l12")
}

func TestTheLimitAheadOfAClash(t *testing.T) {
	for n, left := range []int{api.TInt, api.TBool, api.TStr, api.TUnit} {
		checkLimits(t, "v3", "(x, y)", n, clash("(x, y)", "(x, y)", left, api.TPair), "v3", "v3 v2", "v3 v2 v2", "v3 v2 v2 p6,7")
		checkLimits(t, "v3", "[]", n, clash("[]", "[]", left, api.TList), "v3", "v3 v2", "v3 v2 l6")
		checkLimits(t, "v3", "x :: y", n, clash("x :: y", "x :: y", left, api.TList), "v3", "v3 v2", "v3 v2 l6")
	}
	checkLimits(t, "v3 p5,1", "(x, 1)", 6, clash("(x, 1)", "1", api.TBool, api.TInt), "v3 p5,1", "v3 p5,1 v2", "v3 p5,1 v2 v2", "=7 p5,1 v2 =1 p7,8")
	checkLimits(t, "v3 p5,1", "(x, [])", 6, clash("(x, [])", "[]", api.TBool, api.TList), "v3 p5,1", "v3 p5,1 v2", "v3 p5,1 v2 v2", "=7 p5,1 v2 =1 p7,8", "=7 p5,1 v2 =1 p7,8 v2", "=7 p5,1 v2 =1 p7,8 v2 l10")
	checkLimits(t, "v3", "1 :: ()", 5, clash("1 :: ()", "()", api.TList, api.TUnit), "v3", "v3 v2", "=7 =0 l6")
}

func TestTheLimitWhileNodesAgree(t *testing.T) {
	// The variable of the list becomes a list of another one, as there is a ? within.
	checkLimits(t, "l4 l5", "x :: y", 6, bounds("x=7 y=8"), "l4 l5", "l4 l5 v2", "l4 l5 v2 l7", "l4 l5 v2 l7 v2", "l4 l5 =10 l7 v0 l9")
	checkLimits(t, "l4 l5", "[]", 6, came{}, "l4 l5", "l4 l5 v2", "l4 l5 v2 l7", "l4 l5 v2 l7 v2", "l4 l5 =10 l7 v0 l9")
	checkLimits(t, "l4 p5,0", "(x, 1)", 6, bounds("x=7"), "l4 p5,0", "l4 p5,0 v2", "l4 p5,0 v2 v2", "l4 p5,0 v2 v2 p7,8", "l4 p5,0 v2 v2 p7,8 v2", "l4 p5,0 =11 =0 p7,8 v0 l10")
	checkLimits(t, "f0,4 p0,5", "(x, y)", 6, bounds("x=7 y=8"), "f0,4 p0,5", "f0,4 p0,5 v2", "f0,4 p0,5 v2 v2", "f0,4 p0,5 =0 v2 p7,8", "f0,4 p0,5 =0 v2 p7,8 v2", "f0,4 p0,5 =0 v2 p7,8 v2 v2", "f0,4 p0,5 =0 =12 p7,8 =0 v0 f10,11")
	checkLimits(t, "l4 p5,0", "(x, ())", 6, clash("(x, ())", "()", api.TInt, api.TUnit), "l4 p5,0", "l4 p5,0 v2", "l4 p5,0 v2 v2", "l4 p5,0 v2 v2 p7,8", "l4 p5,0 v2 v2 p7,8 v2", "l4 p5,0 =11 =0 p7,8 v0 l10")
}

func TestTheLimitAfterRead(t *testing.T) {
	for limit, now := range map[int]string{2: "v3, 2", 3: "v3 v2, 3", 4: "v3 v2 v2, 4", 5: "=8 v2 v2 p6,7, 5"} {
		s := played(t, limit, "v3")
		if _, e := s.Read(first); e != api.OK {
			t.Fatal(e)
		}
		want := failed(api.ErrLimit)
		if limit == 5 {
			want = bounds("x=6 y=7")
		}
		if got := did(s, read(t, "(x, y)"), first, 2); got != want || picture(s) != now {
			t.Error(limit, got, picture(s))
		}
	}
}

// P14.2: bad.

// clashing is a type that a pattern made of pairs fits, but for one part, which has to
// fit a function. The parts are counted from 1 on, in the order of the tree.
func clashing(p api.Pat, part *int) api.Type {
	*part--
	if *part == 0 {
		return fun(i, i)
	}
	switch p.Kind {
	case api.PInt, api.PBool, api.PStr, api.PUnit:
		return leaf(map[int]int{api.PInt: api.TInt, api.PBool: api.TBool, api.PStr: api.TStr, api.PUnit: api.TUnit}[p.Kind])
	case api.PNil:
		return list(i)
	case api.PPair:
		first := clashing(p.Kids[0], part)
		return pairOf(first, clashing(p.Kids[1], part))
	}
	return d
}

// sizeOf is the number of parts of a pattern.
func sizeOf(p api.Pat) int {
	size := 1
	for _, kid := range p.Kids {
		size += sizeOf(kid)
	}
	return size
}

// partOf is the part of a pattern that has a number.
func partOf(p api.Pat, part int) api.Pat {
	if part == 1 {
		return p
	}
	part--
	for _, kid := range p.Kids {
		if part <= sizeOf(kid) {
			return partOf(kid, part)
		}
		part -= sizeOf(kid)
	}
	return api.Pat{}
}

func TestEachPartClashes(t *testing.T) {
	kinds := map[int]int{api.PInt: api.TInt, api.PBool: api.TBool, api.PStr: api.TStr, api.PUnit: api.TUnit, api.PPair: api.TPair, api.PNil: api.TList}
	leaves := []api.Pat{pat(api.PAny), named("x"), {Kind: api.PInt, N: 3}, {Kind: api.PBool}, pat(api.PStr), pat(api.PUnit), pat(api.PNil)}
	pairs := func(a, b api.Pat) api.Pat { return pat(api.PPair, a, b) }
	for _, p := range trees(5, leaves, nil, []func(a, b api.Pat) api.Pat{pairs}) {
		p = placed(p)
		for part := range sizeOf(p) {
			s := store.New(200)
			count := part + 1
			n, e := s.Put(clashing(p, &count))
			if e != api.OK {
				t.Fatal(e)
			}
			got := did(s, p, n, 1)
			faulty := partOf(p, part+1)
			if faulty.Kind == api.PAny || faulty.Kind == api.PName {
				if got.e != api.OK || got.bad != (api.Bad{}) {
					t.Error(patText(p), part, got)
				}
				continue
			}
			want := came{"", api.Bad{At: faulty.At, Why: api.ErrClash, Left: api.TFun, Right: kinds[faulty.Kind]}, api.ErrClash}
			if got != want {
				t.Errorf("%s, part %d: %v, want %v", patText(p), part, got, want)
			}
		}
	}
}

func TestThePlaceOfAFault(t *testing.T) {
	// The place is what the pattern says, whatever that is.
	for _, at := range []api.Span{{}, {From: 1, To: 2}, {From: -5, To: math.MinInt}, {From: math.MaxInt, To: 0}} {
		for _, p := range []api.Pat{pat(api.PUnit), pat(api.PNil), {Kind: api.PInt, N: 3}, pat(api.PPair, named("x"), named("y"))} {
			p.At = at
			right := map[int]int{api.PUnit: api.TUnit, api.PNil: api.TList, api.PInt: api.TInt, api.PPair: api.TPair}[p.Kind]
			want := came{"", api.Bad{At: at, Why: api.ErrClash, Left: api.TBool, Right: right}, api.ErrClash}
			if got := did(store.New(9), p, 1, 0); got != want {
				t.Error(got, want)
			}
		}
	}
}

// P14.2: what stays with an error.

func TestWhatStaysWithAnError(t *testing.T) {
	// What was done ahead of the fault stays, and what would have come behind it is not done.
	for _, c := range []struct {
		script, p, part string
		n               int
		left, right     int
		nodes           string
	}{
		{"v3 v4 p5,0 p7,6", "((x, true), 1)", "true", 8, api.TInt, api.TBool, "=12 =10 p5,0 p7,6 =7 v2 p9,10 v2 =0 p12,13"},
		{"v3 v4 p5,6 p7,0", "((1, x), true)", "true", 8, api.TInt, api.TBool, "=0 =13 p5,6 p7,0 =7 =0 p9,10 =0 v2 p12,13"},
		{"v3 v4 p5,6 p0,7", "(true, (1, x))", "true", 8, api.TInt, api.TBool, "v2 v2 p5,6 p0,7 =0 =7 p9,10"},
		// The part of a pair that agreed stays, too.
		{"v3 l5 p6,0", "([] :: _, 1 :: _)", "1 :: _", 7, api.TInt, api.TList, "=14 l5 p6,0 =6 =0 p8,9 =14 l11 v2 l13 v2 l15"},
		{"v3 p5,0 l6", "(x, _) :: ()", "()", 7, api.TList, api.TUnit, "=10 p5,0 l6 =6 l8 v2 =0 p10,11"},
	} {
		check(t, c.script, c.p, c.n, 2, clash(c.p, c.part, c.left, c.right), c.nodes)
	}
}

// Large patterns.

func TestIntoOfDeepPatterns(t *testing.T) {
	defer shallow()()
	for _, c := range []struct {
		kind, times, created int
		second               bool
	}{
		{api.PPair, 20000, 3, false}, {api.PPair, 20000, 3, true}, {api.PCons, 30000, 2, false}, {api.PCons, 30000, 2, true},
	} {
		for _, n := range []int{first, 4} {
			p := deep(c.kind, c.times, c.second, named("x"))
			s := played(t, api.MaxLimit, "v3")
			names, nodes, bad, e := Into(s, p, n, 2)
			if e != api.OK || bad != (api.Bad{}) || !slices.Equal(names, []string{"x"}) || len(nodes) != 1 || s.Count() != 1+c.times*c.created {
				t.Fatal(c, n, names, nodes, bad, e, s.Count())
			}
			if c.second && c.kind == api.PCons {
				if nodes[0] != first+s.Count()-1 || s.Kind(nodes[0]) != api.TList {
					t.Error(c, n, nodes)
				}
			} else if s.Kind(nodes[0]) != api.TVar {
				t.Error(c, n, nodes)
			}
			s = played(t, c.times*c.created, "v3")
			if got := did(s, p, n, 2); got != failed(api.ErrLimit) || s.Count() != c.times*c.created {
				t.Error(c, n, got, s.Count())
			}
		}
	}
}

func TestIntoWithDeepTypes(t *testing.T) {
	defer shallow()()
	const times = 1000
	for _, kind := range []int{api.PPair, api.PCons} {
		for _, second := range []bool{false, true} {
			s := store.New(api.MaxLimit)
			n, e := s.Put(deepType(kind, times, second, list(b)))
			if e != api.OK {
				t.Fatal(e)
			}
			names, nodes, bad, e := Into(s, deep(kind, times, second, named("x")), n, 2)
			if e != api.OK || bad != (api.Bad{}) || len(names) != 1 || len(nodes) != 1 {
				t.Fatal(kind, second, len(names), len(nodes), bad, e)
			}
			if got := typeOf(s, nodes[0]); text(got) != text(list(b)) {
				t.Error(kind, second, text(got))
			}
			end := pat(api.PUnit)
			end.At = api.Span{From: 3, To: 9}
			if got := did(s, deep(kind, times, second, end), n, 2); got != (came{"", api.Bad{At: end.At, Why: api.ErrClash, Left: api.TList, Right: api.TUnit}, api.ErrClash}) {
				t.Error(kind, second, got)
			}
		}
	}
}

func TestIntoOfManyNames(t *testing.T) {
	const most = 10000
	p := pat(api.PNil)
	for k := range most {
		p = pat(api.PCons, named(fmt.Sprint("x", most-1-k)), p)
	}
	s := store.New(2*most + 2)
	names, nodes, _, e := Into(s, p, 4, 7)
	if e != api.OK || len(names) != most || len(nodes) != most {
		t.Fatal(len(names), len(nodes), e)
	}
	for k := range most {
		if names[k] != fmt.Sprint("x", k) || nodes[k] != first+2*k || s.Root(nodes[k]) != s.Root(nodes[0]) {
			t.Fatal(k, names[k], nodes[k])
		}
	}
}

func TestIntoOfSharedPatterns(t *testing.T) {
	// 2^14 leaves, in 14 pairs of memory.
	p := pat(api.PInt)
	for range 14 {
		p = pat(api.PPair, p, p)
	}
	s := played(t, 1+3*(1<<14-1), "v3")
	if got := did(s, p, first, 2); got != (came{}) || s.Count() != 1+3*(1<<14-1) || len(s.Vars(first)) != 0 {
		t.Error(got, s.Count())
	}
}

// The rules.

func TestIntoDoesNotChangeThePattern(t *testing.T) {
	for _, p := range append(rightPats(3), wrongPats()...) {
		for _, p := range append(aroundPat(p), p) {
			p := spare(p)
			was := behind(p)
			for _, limit := range []int{1, 3, 4, 30} {
				for _, n := range []int{-1, 0, 1, 4, first} {
					did(played(t, limit, "v3"), p, n, 2)
				}
			}
			if now := behind(p); now != was {
				t.Errorf("%s became %s", was, now)
			}
		}
	}
}

func TestStoresHaveNothingInCommon(t *testing.T) {
	const script = "v3 v2 l4 p5,6 p7,5 f9,8"
	p := read(t, "(x :: _, y)")
	one, other := played(t, 20, script), played(t, 8, "v1 p5,4 f4,6")
	was := picture(other)
	want := did(one, p, 9, 1)
	if now := picture(other); now != was || want != bounds("x=16 y=12") {
		t.Errorf("%v: %s became %s", want, was, now)
	}
	if got := did(other, p, 7, 1); got.e != api.ErrClash {
		t.Error(got)
	}
	again := played(t, 20, script)
	if got := did(again, p, 9, 1); got != want || picture(again) != picture(one) {
		t.Error(got, want, picture(again), picture(one))
	}
}
