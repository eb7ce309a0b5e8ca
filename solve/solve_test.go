package solve

import (
	"fmt"
	"math"
	"math/rand"
	"runtime/debug"
	"slices"
	"strings"
	"testing"

	"surety/agree"
	"surety/api"
	"surety/scheme"
	"surety/store"
)

func base(kind int) api.Type { return api.Type{Kind: kind} }

func number(n int) api.Type { return api.Type{Kind: api.TVar, N: n} }

func treeOf(kind int, kids ...api.Type) api.Type { return api.Type{Kind: kind, Kids: kids} }

func pairOf(a, b api.Type) api.Type { return treeOf(api.TPair, a, b) }

func fun(a, b api.Type) api.Type { return treeOf(api.TFun, a, b) }

func list(a api.Type) api.Type { return treeOf(api.TList, a) }

// The leaves, by short names.
var (
	i = base(api.TInt)
	b = base(api.TBool)
	d = base(api.TDyn)
)

const (
	nodeInt = iota
	nodeBool
	nodeStr
	nodeUnit
	nodeDyn
	first // the first node that is created
)

// extremes are numbers that are no nodes of any store.
var extremes = []int{-1, -2, -5, math.MinInt, math.MinInt + 1, api.MaxLimit + first, 1 << 32, 1<<32 + 1, 1 << 62, math.MaxInt - 1, math.MaxInt}

// text is the whole of a type: each node is <kind.N and its kids>.
func text(t api.Type) string {
	var kids strings.Builder
	for _, kid := range t.Kids {
		kids.WriteString(text(kid))
	}
	return fmt.Sprintf("<%d.%d%s>", t.Kind, t.N, kids.String())
}

// rightTypes are all right types of at most so many nodes from some leaves.
func rightTypes(most int, leaves ...api.Type) []api.Type {
	l := [][]api.Type{nil, leaves}
	for size := 2; size <= most; size++ {
		var next []api.Type
		for _, t := range l[size-1] {
			next = append(next, list(t))
		}
		for first := 1; first < size-1; first++ {
			for _, t := range l[first] {
				for _, r := range l[size-1-first] {
					next = append(next, pairOf(t, r), fun(t, r))
				}
			}
		}
		l = append(l, next)
	}
	return slices.Concat(l...)
}

// played is a store in which that was done what a script says, which has no errors:
// v1 creates a variable of level 1, p5,6 a pair, l5 a list, f5,6 a function, and
// =5,6 links 5 to 6.
func played(t *testing.T, limit int, script string) *store.Store {
	t.Helper()
	s := store.New(limit)
	for _, step := range strings.Fields(script) {
		var x, y int
		fmt.Sscanf(step[1:], "%d,%d", &x, &y)
		e := api.OK
		switch step[0] {
		case 'v':
			_, e = s.Var(x)
		case 'p':
			_, e = s.Make(api.TPair, x, y)
		case 'l':
			_, e = s.Make(api.TList, x, y)
		case 'f':
			_, e = s.Make(api.TFun, x, y)
		case '=':
			e = s.Link(x, y)
		default:
			t.Fatal(script, step)
		}
		if e != api.OK {
			t.Fatalf("%s in %s: %v", step, script, e)
		}
	}
	return s
}

// picture shows the nodes from 5 on as in a script: v1 is a variable of level 1,
// p5,6 a pair, l5 a list, f5,6 a function; but =6 is a node whose root is 6.
func picture(s *store.Store) string {
	var l []string
	for n := first; s.Root(n) >= 0; n++ {
		var kids []string
		for _, kid := range s.Kids(n) {
			kids = append(kids, fmt.Sprint(kid))
		}
		below := strings.Join(kids, ",")
		switch {
		case s.Root(n) != n:
			l = append(l, fmt.Sprint("=", s.Root(n)))
		case s.Kind(n) == api.TVar:
			l = append(l, fmt.Sprint("v", s.Level(n)))
		default:
			l = append(l, string(" plf"[s.Kind(n)-api.TVar])+below)
		}
	}
	return fmt.Sprintf("%s, %d", strings.Join(l, " "), s.Count())
}

// came is what a call of Agree came to.
type came struct {
	left, right int
	e           api.Errno
}

// did calls Agree.
func did(s *store.Store, x, y int) came {
	left, right, e := Agree(s, x, y)
	return came{left, right, e}
}

// check calls Agree in the store of a script, which has room for 50 nodes, and checks
// what it returns and what the nodes are then.
func check(t *testing.T, script string, x, y int, want came, nodes string) {
	t.Helper()
	s := played(t, 50, script)
	got := did(s, x, y)
	now, _, _ := strings.Cut(picture(s), ", ")
	if got != want || now != nodes {
		t.Errorf("%s, then Agree(%d, %d): %v %s, want %v %s", script, x, y, got, now, want, nodes)
	}
}

// P13.1: what is no node, the same node, ?.

func TestExample(t *testing.T) {
	check(t, "v3 f4,0", 5, 6, came{}, "=9 f4,0 v0 =0 f7,8")
}

func TestNumbersThatAreNoNodes(t *testing.T) {
	for _, s := range []*store.Store{store.New(0), store.New(10), played(t, 10, "v1 v2 p5,6 =6,4"), played(t, 3, "v1 v2 p5,4"), new(store.Store)} {
		before := picture(s)
		top := first + s.Count()
		for _, wrong := range append([]int{top, top + 1}, extremes...) {
			for n := range top {
				for _, ends := range [][2]int{{wrong, n}, {n, wrong}, {wrong, wrong}} {
					if got := did(s, ends[0], ends[1]); got != (came{e: api.ErrArg}) {
						t.Error(ends, got)
					}
				}
			}
		}
		if after := picture(s); after != before {
			t.Errorf("%s became %s", before, after)
		}
	}
	// Each store says for itself what its nodes are.
	small, great := store.New(10), played(t, 10, "v1 v1")
	if got := did(small, 5, 0); got != (came{e: api.ErrArg}) {
		t.Error(got)
	}
	if got := did(great, 5, 6); got != (came{}) {
		t.Error(got)
	}
	if got := did(new(store.Store), 0, 0); got != (came{e: api.ErrArg}) {
		t.Error(got)
	}
}

func TestTheSameNode(t *testing.T) {
	// 12 and 13 are linked to the pair 9, 14 to the variable 5, 15 and 16 to ?.
	script := "v3 v1 f5,4 l7 p8,6 p9,5 v2 v4 v4 v5 v6 v7 =12,9 =13,12 =14,5 =15,4 =16,15"
	s := played(t, 12, script)
	before := picture(s)
	for n := range first + 12 {
		for m := range first + 12 {
			if s.Root(n) != s.Root(m) {
				continue
			}
			if got := did(s, n, m); got != (came{}) {
				t.Error(n, m, got)
			}
			if after := picture(s); after != before {
				t.Fatalf("Agree(%d, %d): %s became %s", n, m, before, after)
			}
		}
	}
}

func TestTheSameNodeAmongKids(t *testing.T) {
	// The levels within what both have stay as they are, also beside ?.
	check(t, "v3 p5,4 l6 p7,0 p7,0", 8, 9, came{}, "v3 p5,4 l6 p7,0 p7,0")
	check(t, "v3 v2 p5,4 =6,7 l6 l7", 8, 9, came{}, "v2 =7 p5,4 l6 l7")
	check(t, "v3 v2 =5,6 f5,6 f6,5", 7, 8, came{}, "=6 v2 f5,6 f6,5")
}

func TestDynamic(t *testing.T) {
	for _, c := range []struct {
		script string
		n      int
		nodes  string
	}{
		{"v3", 0, "v3"}, {"v3", 1, "v3"}, {"v3", 2, "v3"}, {"v3", 3, "v3"}, {"v3", 4, "v3"},
		{"v3 v2", 5, "v0 v2"}, {"v0 v2", 5, "v0 v2"}, {"v3 v1000000", 6, "v3 v0"},
		{"v3 v1 v5 p6,7", 8, "v3 v0 v0 p6,7"}, {"v3 v1 v5 f7,6 l8 f9,6", 10, "v3 v0 v0 f7,6 l8 f9,6"}, {"v3 v1 l4 p6,7", 8, "v3 v0 l4 p6,7"},
		{"v3 v2 l6 =5,7", 5, "=7 v0 l6"}, {"v3 v2 l5 =5,6", 7, "=6 v0 l5"}, {"v3 v2 =5,6", 5, "=6 v0"}, {"v3 v2 =5,6", 6, "=6 v0"},
		{"v3 v2 p5,0", 5, "v0 v2 p5,0"}, {"v3 v2 p5,0", 7, "v0 v2 p5,0"}, {"v4 v0 v1 v2 p5,6 p7,8 f9,10", 11, "v0 v0 v0 v0 p5,6 p7,8 f9,10"},
		{"v3 =5,4", 5, "=4"}, {"v3 v3 l5 =5,4 p6,7", 8, "=4 v0 l5 p6,7"},
	} {
		check(t, c.script, nodeDyn, c.n, came{}, c.nodes)
		check(t, c.script, c.n, nodeDyn, came{}, c.nodes)
	}
	// A variable that is linked to ? is ?.
	for _, c := range []struct {
		n     int
		nodes string
	}{{0, "=4 =4 v3 l7"}, {4, "=4 =4 v3 l7"}, {5, "=4 =4 v3 l7"}, {6, "=4 =4 v3 l7"}, {7, "=4 =4 v0 l7"}, {8, "=4 =4 v0 l7"}} {
		for _, dyn := range []int{5, 6} {
			check(t, "v9 v9 v3 l7 =5,4 =6,5", dyn, c.n, came{}, c.nodes)
			check(t, "v9 v9 v3 l7 =5,4 =6,5", c.n, dyn, came{}, c.nodes)
		}
	}
}

func TestDynamicAmongKids(t *testing.T) {
	check(t, "v3 v2 p5,4 p4,6", 7, 8, came{}, "v0 v0 p5,4 p4,6")
	check(t, "v3 v2 l4 l5", 7, 8, came{}, "v0 v2 l4 l5")
	check(t, "v3 v2 l4 l6", 8, 7, came{}, "v3 v0 l4 l6")
	check(t, "v3 v2 v1 f5,6 f4,7 f8,9 f4,4", 10, 11, came{}, "v0 v0 v0 f5,6 f4,7 f8,9 f4,4")
	check(t, "v3 v2 v1 f5,6 f4,7", 8, 9, came{}, "v0 =7 v1 f5,6 f4,7")
	check(t, "v3 v2 v1 f5,6 f4,7", 9, 8, came{}, "v0 v1 =6 f5,6 f4,7")
}

// P13.1: a variable becomes a node.

func TestAVariableAndAVariable(t *testing.T) {
	check(t, "v1 v2", 5, 6, came{}, "=6 v1")
	check(t, "v1 v2", 6, 5, came{}, "v1 =5")
	check(t, "v2 v1", 5, 6, came{}, "=6 v1")
	check(t, "v2 v1", 6, 5, came{}, "v1 =5")
	check(t, "v2 v4 v3 v1 =5,6 =7,8", 5, 7, came{}, "=8 =8 =8 v1")
	check(t, "v2 v4 v3 v1 =5,6 =7,8", 7, 5, came{}, "=6 v1 =6 =6")
	check(t, "v5 v3 p5,0 p6,0", 7, 8, came{}, "=6 v3 p5,0 p6,0")
	check(t, "v5 v3 p5,0 p6,0", 8, 7, came{}, "v3 =5 p5,0 p6,0")
}

func TestAVariableAndANodeThatIsStatic(t *testing.T) {
	for _, c := range []struct {
		script string
		v, n   int
		nodes  string
	}{
		{"v1", 5, 0, "=0"}, {"v1", 5, 1, "=1"}, {"v1", 5, 2, "=2"}, {"v1", 5, 3, "=3"},
		{"v1 p0,1", 5, 6, "=6 p0,1"}, {"v1 l0", 5, 6, "=6 l0"}, {"v1 f2,3", 5, 6, "=6 f2,3"},
		{"v1 v5 v0 p6,7 l8", 5, 9, "=9 v1 v0 p6,7 l8"}, {"v0 v5 v1 f7,6", 5, 8, "=8 v0 v0 f7,6"}, {"v9 v5 v1 f7,6", 5, 8, "=8 v5 v1 f7,6"},
		{"v1 v2 v3 p7,0 =5,6", 5, 8, "=8 =8 v1 p7,0"}, {"v1 v2 v3 p7,0 =5,6", 6, 8, "=8 =8 v1 p7,0"},
		{"v4 v2 v3 p6,0 =7,8", 5, 7, "=8 v2 =8 p6,0"}, {"v1 v2 v3 p6,0 =7,8", 5, 7, "=8 v1 =8 p6,0"},
		{"v1 v2 l6 l5 l8 v3 =10,9", 10, 6, "v1 =9 l6 l5 l8 =9"},
	} {
		check(t, c.script, c.v, c.n, came{}, c.nodes)
		check(t, c.script, c.n, c.v, came{}, c.nodes)
	}
}

func TestAVariableAndANodeWithDynamic(t *testing.T) {
	// Of two variables the first one becomes the second one, so it is seen which of
	// them is the variable that was created.
	for _, c := range []struct {
		script    string
		v, n      int
		nodes     string
		turned    string // the nodes after Agree(n, v)
		different bool
	}{
		{script: "v2 l4", v: 5, n: 6, nodes: "=8 l4 v0 l7"},
		{script: "v2 p4,0", v: 5, n: 6, nodes: "=9 p4,0 v0 =0 p7,8"},
		{script: "v2 p0,4", v: 5, n: 6, nodes: "=9 p0,4 =0 v0 p7,8"},
		{script: "v2 f4,4", v: 5, n: 6, nodes: "=9 f4,4 v0 v0 f7,8"},
		{script: "v2 v7 p6,4", v: 5, n: 7, nodes: "=10 v2 p6,4 =6 v0 p8,9", turned: "=10 =8 p6,4 v2 v0 p8,9", different: true},
		{script: "v7 v2 p6,4", v: 5, n: 7, nodes: "=10 v2 p6,4 =6 v0 p8,9", turned: "=10 =8 p6,4 v2 v0 p8,9", different: true},
		{script: "v2 v7 f4,6", v: 5, n: 7, nodes: "=10 v2 f4,6 v0 =6 f8,9", turned: "=10 =9 f4,6 v0 v2 f8,9", different: true},
		{script: "v2 v7 l6 p4,7", v: 5, n: 8, nodes: "=11 v2 l6 p4,7 v0 =7 p9,10"},
		{script: "v0 v7 l6 p4,7", v: 5, n: 8, nodes: "=11 v0 l6 p4,7 v0 =7 p9,10"},
		{script: "v2 l4 f6,0", v: 5, n: 7, nodes: "=10 l4 f6,0 =12 =0 f8,9 v0 l11"},
		{script: "v2 l4 f0,6", v: 5, n: 7, nodes: "=10 l4 f0,6 =0 =12 f8,9 v0 l11"},
		{script: "v2 l4 l6 p6,7", v: 5, n: 8, nodes: "=11 l4 l6 p6,7 =13 =15 p9,10 v0 l12 =17 l14 v0 l16"},
		{script: "v2 p4,4 p6,6", v: 5, n: 7, nodes: "=10 p4,4 p6,6 =13 =16 p8,9 v0 v0 p11,12 v0 v0 p14,15"},
		// A variable that is there twice, and one that stands for another node.
		{script: "v2 v7 p6,6 f7,4", v: 5, n: 8, nodes: "=11 v2 p6,6 f7,4 =7 v0 f9,10"},
		{script: "v2 v7 v8 f6,4 p7,8 =7,6", v: 5, n: 9, nodes: "=12 v2 =6 f6,4 p7,8 =6 =15 p10,11 =6 v0 f13,14", turned: "=12 =13 =13 f6,4 p7,8 =13 =15 p10,11 v2 v0 f13,14", different: true},
		{script: "v2 v7 p6,4 f7,6", v: 5, n: 8, nodes: "=11 v2 p6,4 f7,6 =14 =6 f9,10 =6 v0 p12,13", turned: "=11 =10 p6,4 f7,6 =14 v2 f9,10 =10 v0 p12,13", different: true},
		// The variable and the node are linked to.
		{script: "v5 v1 l4 v3 =5,6 =8,7", v: 5, n: 8, nodes: "=10 =10 l4 =7 v0 l9"},
		{script: "v5 v4 =6,4 p6,0", v: 5, n: 7, nodes: "=10 =4 p6,0 v0 =0 p8,9"},
	} {
		check(t, c.script, c.v, c.n, came{}, c.nodes)
		if !c.different {
			c.turned = c.nodes
		}
		check(t, c.script, c.n, c.v, came{}, c.turned)
	}
}

func TestLevelsOfWhatAVariableBecomes(t *testing.T) {
	for _, level := range []int{0, 1, 2, 999, api.MaxLevel + 1, 1 << 40, math.MaxInt} {
		for _, more := range []int{0, 5, math.MaxInt} {
			least := min(level, more)
			check(t, fmt.Sprintf("v%d v%d p6,4", level, more), 5, 7, came{}, fmt.Sprintf("=10 v%d p6,4 =6 v0 p8,9", least))
			check(t, fmt.Sprintf("v%d v%d p6,4", level, more), 7, 5, came{}, fmt.Sprintf("=10 =8 p6,4 v%d v0 p8,9", least))
		}
	}
	// The level that counts is that of the root, at that moment.
	check(t, "v9 v3 v7 p7,4 =5,6", 5, 8, came{}, "=11 =11 v3 p7,4 =7 v0 p9,10")
	check(t, "v9 v7 p6,4 f5,5 f4,7", 8, 9, came{}, "=12 v0 p6,4 f5,5 f4,7 =6 v0 p10,11")
	check(t, "v9 v7 p6,4 f5,5 f7,4", 8, 9, came{}, "=12 v0 p6,4 f5,5 f7,4 =6 v0 p10,11")
	check(t, "v9 v1 v7 p7,4 p5,5 p6,8", 9, 10, came{}, "=13 =13 v1 p7,4 p5,5 p6,8 =7 v0 p11,12")
}

func TestAVariableWithinTheOtherNode(t *testing.T) {
	for _, c := range []struct {
		script string
		v, n   int
	}{
		{"v1 l5", 5, 6}, {"v1 p5,0", 5, 6}, {"v1 p0,5", 5, 6}, {"v1 f5,5", 5, 6}, {"v1 v5 p5,6", 5, 7}, {"v1 v5 p6,5", 5, 7},
		{"v1 p5,4", 5, 6}, {"v1 p4,5", 5, 6}, {"v1 f5,4", 5, 6}, {"v1 l4 f6,5", 5, 7}, {"v1 v5 p5,6 p7,4", 5, 8}, {"v1 v5 p6,5 p4,7", 5, 8},
		{"v1 l5 l6 l7 p8,4", 5, 9}, {"v1 l5 l6 l7 p8,8", 5, 9},
		{"v1 v1 l5 =6,7", 5, 6}, {"v1 v1 l5 p6,4 =6,7", 5, 8}, {"v1 v2 l5 =6,5", 6, 7}, {"v1 v2 p5,4 =5,6", 5, 7}, {"v1 v2 p5,4 =5,6", 6, 7}, {"v1 v1 v1 l5 l6 =6,8 =7,9", 5, 7},
	} {
		for _, room := range []int{0, 1, 2, 3, 20} {
			s := played(t, 50, c.script)
			s = played(t, s.Count()+room, c.script)
			before := picture(s)
			for _, ends := range [][2]int{{c.v, c.n}, {c.n, c.v}} {
				if got := did(s, ends[0], ends[1]); got != (came{e: api.ErrLoop}) {
					t.Error(c, room, got)
				}
			}
			if after := picture(s); after != before {
				t.Errorf("%s became %s", before, after)
			}
		}
	}
	// Within, but only by way of what was linked before in the same call.
	check(t, "v1 v2 l6 l5 p5,6 p7,8", 9, 10, came{e: api.ErrLoop}, "=7 v1 l6 l5 p5,6 p7,8")
	check(t, "v1 v2 l6 l5 p5,6 p7,8", 10, 9, came{e: api.ErrLoop}, "=7 v1 l6 l5 p5,6 p7,8")
	check(t, "v1 v2 p6,4 p5,4 p5,6 p7,8", 9, 10, came{e: api.ErrLoop}, "=13 v1 p6,4 p5,4 p5,6 p7,8 =6 v0 p11,12")
	// ? does not stand for a type that has itself within it.
	check(t, "v1 p5,4", 4, 6, came{}, "v0 p5,4")
	check(t, "v1 p5,4 p4,5", 6, 7, came{}, "v0 p5,4 p4,5")
}

// P13.1: kinds that differ, and the order.

func TestKindsThatDiffer(t *testing.T) {
	// A node of each kind with which another kind can clash.
	const script = "p0,0 l0 f0,0 p4,4 l4 f4,4 v3 =11,5 v3 =12,6 v3 =13,7"
	nodes := []int{0, 1, 2, 3, 5, 6, 7, 8, 9, 10, 11, 12, 13}
	kinds := []int{api.TInt, api.TBool, api.TStr, api.TUnit, api.TPair, api.TList, api.TFun, api.TPair, api.TList, api.TFun, api.TPair, api.TList, api.TFun}
	s := played(t, 50, script)
	before := picture(s)
	for k, x := range nodes {
		for m, y := range nodes {
			want := came{kinds[k], kinds[m], api.ErrClash}
			if kinds[k] == kinds[m] {
				want = came{}
			}
			if got := did(s, x, y); got != want {
				t.Errorf("Agree(%d, %d): %v, want %v", x, y, got, want)
			}
		}
	}
	if after := picture(s); after != before {
		t.Errorf("%s became %s", before, after)
	}
}

func clash(left, right int) came { return came{left, right, api.ErrClash} }

func TestTheSidesOfAClash(t *testing.T) {
	// The sides do not turn, neither in arguments nor below a variable.
	for _, c := range []struct {
		script      string
		x, y        int
		left, right int
		nodes       string
	}{
		{"f0,3 f1,3", 5, 6, api.TInt, api.TBool, "f0,3 f1,3"},
		{"f0,3 f1,3", 6, 5, api.TBool, api.TInt, "f0,3 f1,3"},
		{"f3,0 f3,1", 5, 6, api.TInt, api.TBool, "f3,0 f3,1"},
		{"p3,0 p3,1 f5,0 f6,0 f7,0 f8,0", 9, 10, api.TInt, api.TBool, "p3,0 p3,1 f5,0 f6,0 f7,0 f8,0"},
		{"l2 l3 l5 l6", 7, 8, api.TStr, api.TUnit, "l2 l3 l5 l6"},
		{"v1 p5,5 p0,1", 6, 7, api.TInt, api.TBool, "=0 p5,5 p0,1"},
		{"v1 p5,5 p0,1", 7, 6, api.TBool, api.TInt, "=0 p5,5 p0,1"},
		{"v1 v1 p5,6 p5,0 p6,1 p0,1", 8, 9, api.TInt, api.TBool, "=6 v1 p5,6 p5,0 p6,1 p0,1"},
		{"v1 v1 p5,6 p5,0 p6,1 p0,1", 9, 8, api.TBool, api.TInt, "v1 =5 p5,6 p5,0 p6,1 p0,1"},
	} {
		check(t, c.script, c.x, c.y, clash(c.left, c.right), c.nodes)
	}
}

func TestTheFirstKidsAreFirst(t *testing.T) {
	check(t, "p0,1 p1,3", 5, 6, clash(api.TInt, api.TBool), "p0,1 p1,3")
	check(t, "p0,1 p0,3", 5, 6, clash(api.TBool, api.TUnit), "p0,1 p0,3")
	check(t, "f0,1 f1,3", 5, 6, clash(api.TInt, api.TBool), "f0,1 f1,3")
	check(t, "f0,1 f0,3", 5, 6, clash(api.TBool, api.TUnit), "f0,1 f0,3")
	// What is within the first kids comes before the second ones.
	check(t, "p0,1 p0,2 p5,0 p6,3", 7, 8, clash(api.TBool, api.TStr), "p0,1 p0,2 p5,0 p6,3")
	check(t, "p0,1 p0,2 p0,5 p3,6", 7, 8, clash(api.TInt, api.TUnit), "p0,1 p0,2 p0,5 p3,6")
	check(t, "f0,1 f0,2 l5 l6 f7,0 f8,3", 9, 10, clash(api.TBool, api.TStr), "f0,1 f0,2 l5 l6 f7,0 f8,3")
	check(t, "v1 l5 p6,0 p5,3", 7, 8, came{e: api.ErrLoop}, "v1 l5 p6,0 p5,3")
	check(t, "v1 l5 p0,6 p3,5", 7, 8, clash(api.TInt, api.TUnit), "v1 l5 p0,6 p3,5")
	// A variable is one type for the first kids, and then for the second ones.
	check(t, "v1 p5,5 p0,1", 6, 7, clash(api.TInt, api.TBool), "=0 p5,5 p0,1")
	check(t, "v1 p5,5 p0,1", 7, 6, clash(api.TBool, api.TInt), "=0 p5,5 p0,1")
	check(t, "v1 f5,5 f3,4", 6, 7, came{}, "=3 f5,5 f3,4")
	check(t, "v1 v2 p5,6 p6,5", 7, 8, came{}, "=6 v1 p5,6 p6,5")
	check(t, "v1 v2 p5,6 p6,0", 7, 8, came{}, "=0 =0 p5,6 p6,0")
	check(t, "v1 v2 v3 p5,6 p7,7", 8, 9, came{}, "=7 =7 v1 p5,6 p7,7")
	check(t, "v1 v2 v3 p5,6 p7,7", 9, 8, came{}, "=6 v1 =6 p5,6 p7,7")
}

func TestThePairThatWasPushedLastIsFirst(t *testing.T) {
	// What the variables become is created in the order in which they are processed.
	check(t, "v1 v2 l4 l7 p5,6 p8,7", 9, 10, came{}, "=12 =16 l4 l7 p5,6 p8,7 =14 l11 v0 l13 v0 l15")
	check(t, "v1 v2 l4 l7 p5,6 p8,7", 10, 9, came{}, "=12 =16 l4 l7 p5,6 p8,7 =14 l11 v0 l13 v0 l15")
	check(t, "v1 v2 v3 l4 p5,6 p9,7 p8,8 p11,8", 10, 12, came{}, "=14 =16 =18 l4 p5,6 p9,7 p8,8 p11,8 v0 l13 v0 l15 v0 l17")
	check(t, "v1 v2 v3 l4 p5,6 p7,9 p8,8 p8,11", 10, 12, came{}, "=16 =18 =14 l4 p5,6 p7,9 p8,8 p8,11 v0 l13 v0 l15 v0 l17")
	// A pair of what a variable becomes: its first kid's kids come before its second kid.
	check(t, "v1 p4,0 f6,6", 5, 7, came{}, "=10 p4,0 f6,6 =13 =16 f8,9 v0 =0 p11,12 v0 =0 p14,15")
	// And before the pairs that were pushed earlier.
	check(t, "v1 v2 p4,0 l4 p5,6 p7,8", 9, 10, came{}, "=13 =15 p4,0 l4 p5,6 p7,8 v0 =0 p11,12 v0 l14")
}

func TestPairsListsAndFunctions(t *testing.T) {
	check(t, "v1 v2 f5,6 f7,5 f0,1 f8,0 f9,4", 8, 11, came{}, "=0 =1 f5,6 f7,5 f0,1 f8,0 f9,4")
	check(t, "v1 v2 f5,6 f7,5 f0,1 f9,4", 8, 10, came{}, "=0 =1 f5,6 f7,5 f0,1 f9,4")
	check(t, "v3 v2 f4,5 f6,6", 7, 8, came{}, "=6 v0 f4,5 f6,6")
	check(t, "v3 v2 p4,4 p4,7 p6,0 p5,9", 8, 10, came{}, "v0 v0 p4,4 p4,7 p6,0 p5,9")
	check(t, "l0 l0 l4 l5 l6 l7", 8, 9, came{}, "l0 l0 l4 l5 l6 l7")
	check(t, "l0 l0 l4 l5 l6 l7", 9, 10, came{}, "l0 l0 l4 l5 l6 l7")
	check(t, "v3 v4 p5,6 p4,4 l7 l8", 9, 10, came{}, "v0 v0 p5,6 p4,4 l7 l8")
	check(t, "v3 v4 p5,6 p4,4 l7 l8", 10, 9, came{}, "v0 v0 p5,6 p4,4 l7 l8")
	// What agrees with ? in two ways agrees only with ?.
	check(t, "p0,1 p4,4 p1,0", 5, 6, came{}, "p0,1 p4,4 p1,0")
	check(t, "p0,1 p4,4 p1,0", 6, 7, came{}, "p0,1 p4,4 p1,0")
	check(t, "v3 p5,5 p4,4 p1,0", 6, 7, came{}, "v0 p5,5 p4,4 p1,0")
}

// P13.1: the limit, and what stays with an error.

// checkLimits calls Agree in stores that have room for 0, 1 .. nodes more than the
// script creates, and checks which nodes there are then. The last store has
// just enough room.
func checkLimits(t *testing.T, script string, x, y int, nodes ...string) {
	t.Helper()
	count := played(t, 50, script).Count()
	for room, want := range nodes {
		wanted := came{e: api.ErrLimit}
		if room == len(nodes)-1 {
			wanted = came{}
		}
		s := played(t, count+room, script)
		got := did(s, x, y)
		if now := picture(s); got != wanted || now != fmt.Sprintf("%s, %d", want, count+room) {
			t.Errorf("%s with room for %d, then Agree(%d, %d): %v %s, want %v %s", script, room, x, y, got, now, wanted, want)
		}
	}
}

func TestTheLimit(t *testing.T) {
	for _, ends := range [][2]int{{5, 6}, {6, 5}} {
		checkLimits(t, "v2 l4", ends[0], ends[1], "v2 l4", "v2 l4 v2", "=8 l4 v0 l7")
		checkLimits(t, "v2 p4,0", ends[0], ends[1], "v2 p4,0", "v2 p4,0 v2", "v2 p4,0 v2 v2", "=9 p4,0 v0 =0 p7,8")
		checkLimits(t, "v2 f0,4", ends[0], ends[1], "v2 f0,4", "v2 f0,4 v2", "v2 f0,4 v2 v2", "=9 f0,4 =0 v0 f7,8")
		// No room is needed for what is static.
		checkLimits(t, "v3 p0,1", ends[0], ends[1], "=6 p0,1")
	}
	for _, ends := range [][2]int{{5, 7}, {7, 5}} {
		checkLimits(t, "v2 v1 p4,6", ends[0], ends[1], "v2 v1 p4,6", "v2 v1 p4,6 v2", "v2 v1 p4,6 v2 v2", map[int]string{5: "=10 v1 p4,6 v0 =6 p8,9", 7: "=10 =9 p4,6 v0 v1 p8,9"}[ends[0]])
		checkLimits(t, "v2 l4 l6", ends[0], ends[1], "v2 l4 l6", "v2 l4 l6 v2", "=9 l4 l6 v2 l8", "=9 l4 l6 v2 l8 v2", "=9 l4 l6 =11 l8 v0 l10")
		checkLimits(t, "v3 l4 p4,6", ends[0], ends[1], "v3 l4 p4,6", "v3 l4 p4,6 v3", "v3 l4 p4,6 v3 v3", "=10 l4 p4,6 v0 v3 p8,9", "=10 l4 p4,6 v0 v3 p8,9 v3", "=10 l4 p4,6 v0 =12 p8,9 v0 l11")
		checkLimits(t, "v3 l4 p6,4", ends[0], ends[1], "v3 l4 p6,4", "v3 l4 p6,4 v3", "v3 l4 p6,4 v3 v3", "=10 l4 p6,4 v3 v3 p8,9", "=10 l4 p6,4 v3 v3 p8,9 v3", "=10 l4 p6,4 =12 v0 p8,9 v0 l11")
	}
	checkLimits(t, "v3 v2", 5, 6, "=6 v2")
	checkLimits(t, "v3 l5", 6, 4, "v0 l5")
	checkLimits(t, "v3 p5,0 p4,4", 6, 7, "v0 p5,0 p4,4")
}

func TestTheLimitAfterOtherPairs(t *testing.T) {
	// 5 becomes int, then 6 a list of a variable, then 7 one.
	for _, ends := range [][2]int{{10, 12}, {12, 10}} {
		checkLimits(t, "v1 v2 v3 l4 p5,6 p9,7 p0,8 p11,8", ends[0], ends[1],
			"=0 v2 v3 l4 p5,6 p9,7 p0,8 p11,8",
			"=0 v2 v3 l4 p5,6 p9,7 p0,8 p11,8 v2",
			"=0 =14 v3 l4 p5,6 p9,7 p0,8 p11,8 v0 l13",
			"=0 =14 v3 l4 p5,6 p9,7 p0,8 p11,8 v0 l13 v3",
			"=0 =14 =16 l4 p5,6 p9,7 p0,8 p11,8 v0 l13 v0 l15")
	}
}

func TestTheLimitAfterRead(t *testing.T) {
	for limit, want := range map[int]string{5: "v2 p4,0, 5", 6: "v2 p4,0 v2, 6", 7: "v2 p4,0 v2 v2, 7", 8: "=9 p4,0 v0 =0 p7,8, 8"} {
		s := played(t, limit, "v2 p4,0")
		if _, e := s.Read(6); e != api.OK {
			t.Fatal(e)
		}
		wanted := came{e: api.ErrLimit}
		if limit == 8 {
			wanted = came{}
		}
		if got := did(s, 5, 6); got != wanted || picture(s) != want {
			t.Error(limit, got, picture(s))
		}
	}
}

func TestWhatStaysWithAnError(t *testing.T) {
	// What was done ahead of the fault stays, and what would have come behind it is not done.
	for _, c := range []struct {
		script string
		x, y   int
		want   came
		nodes  string
	}{
		{"v1 v2 p5,0 p6,3 p7,5", 7, 8, clash(api.TInt, api.TUnit), "=6 v1 p5,0 p6,3 p7,5"},
		{"v1 v2 p0,5 p3,6", 7, 8, clash(api.TInt, api.TUnit), "v1 v2 p0,5 p3,6"},
		{"v1 v2 p5,0 p4,3", 7, 8, clash(api.TInt, api.TUnit), "v0 v2 p5,0 p4,3"},
		{"v1 v2 p0,6 p3,4", 7, 8, clash(api.TInt, api.TUnit), "v1 v2 p0,6 p3,4"},
		{"v1 v2 l4 p5,0 p7,3", 8, 9, clash(api.TInt, api.TUnit), "=11 v2 l4 p5,0 p7,3 v0 l10"},
		{"v1 v2 l6 p5,6 p3,7", 8, 9, came{e: api.ErrLoop}, "=3 v2 l6 p5,6 p3,7"},
		{"v1 v2 l6 p5,6 p4,7", 8, 9, came{e: api.ErrLoop}, "v0 v2 l6 p5,6 p4,7"},
		{"v1 v2 l6 p6,5 p7,3", 8, 9, came{e: api.ErrLoop}, "v1 v2 l6 p6,5 p7,3"},
		{"v1 v2 p6,4 p6,5 p7,3", 8, 9, came{e: api.ErrLoop}, "v1 v2 p6,4 p6,5 p7,3"},
		{"v1 v2 p6,4 p5,6 p3,7", 8, 9, came{e: api.ErrLoop}, "=3 v2 p6,4 p5,6 p3,7"},
		{"v5 v2 l4 p5,0 p7,0 p8,6 l6 p9,11", 10, 12, came{e: api.ErrLoop}, "=14 v2 l4 p5,0 p7,0 p8,6 l6 p9,11 v0 l13"},
	} {
		check(t, c.script, c.x, c.y, c.want, c.nodes)
	}
}

// P13.1: against the words of the chapter.

// byWords does what the chapter says, whatever that costs. As the pair that was pushed
// last is the first one, a pair is done with all that follows from it before the next
// one.
func byWords(s *store.Store, a, b int) came {
	if s.Root(a) == -1 || s.Root(b) == -1 {
		return came{e: api.ErrArg}
	}
	x, y := s.Root(a), s.Root(b)
	switch {
	case x == y:
		return came{}
	case s.Kind(x) == api.TDyn:
		return came{e: s.Lower(y, 0)}
	case s.Kind(y) == api.TDyn:
		return came{e: s.Lower(x, 0)}
	case s.Kind(x) == api.TVar:
		m, e := becomeByWords(s, x, y)
		if e != api.OK || m == -1 {
			return came{e: e}
		}
		x = m
	case s.Kind(y) == api.TVar:
		m, e := becomeByWords(s, y, x)
		if e != api.OK || m == -1 {
			return came{e: e}
		}
		y = m
	case s.Kind(x) != s.Kind(y):
		return clash(s.Kind(x), s.Kind(y))
	}
	kidsX, kidsY := s.Kids(x), s.Kids(y)
	for k := range kidsX {
		if c := byWords(s, kidsX[k], kidsY[k]); c.e != api.OK {
			return c
		}
	}
	return came{}
}

// becomeByWords returns the node that v becomes, or -1 if v was linked to w.
func becomeByWords(s *store.Store, v, w int) (int, api.Errno) {
	if s.Kind(w) == api.TVar || s.Static(w) {
		return -1, s.Link(v, w)
	}
	if s.Within(v, w) {
		return -1, api.ErrLoop
	}
	kids := []int{0, 0}
	for k := range s.Kids(w) {
		n, e := s.Var(s.Level(v))
		if e != api.OK {
			return -1, e
		}
		kids[k] = n
	}
	m, e := s.Make(s.Kind(w), kids[0], kids[1])
	if e != api.OK {
		return -1, e
	}
	return m, s.Link(v, m)
}

// twins are two stores in which the same was done, but Agree in one of them by the
// words of the chapter.
type twins struct {
	*testing.T
	s, words *store.Store
	log      []string
	agreed   int // how often Agree returned OK, having changed something
}

func newTwins(t *testing.T, limit int) *twins {
	return &twins{T: t, s: store.New(limit), words: store.New(limit)}
}

// both does something in both stores, and checks that it comes to the same.
func (c *twins) both(what string, do, words func(s *store.Store) string) {
	c.Helper()
	c.log = append(c.log, what)
	got, want := do(c.s), words(c.words)
	if now, wanted := picture(c.s), picture(c.words); got != want || now != wanted {
		c.Fatalf("%s: %s %s, want %s %s", strings.Join(c.log, "; "), got, now, want, wanted)
	}
}

// step takes what to do from next, which returns numbers from 0 on that are less
// than the one given.
func (c *twins) step(next func(below int) int) {
	c.Helper()
	top := first
	for c.s.Root(top) >= 0 {
		top++
	}
	node := func() int {
		if top > first && next(4) > 0 {
			return first + next(top-first)
		}
		return next(top + next(30)/29)
	}
	x, y := node(), node()
	same := func(what string, do func(s *store.Store) string) { c.both(what, do, do) }
	switch next(12) {
	case 0, 1, 2:
		level := next(5)
		same(fmt.Sprint("Var ", level), func(s *store.Store) string { return fmt.Sprint(s.Var(level)) })
	case 3, 4, 5, 6, 7:
		kind := api.TPair + next(3)
		same(fmt.Sprint("Make ", kind, x, y), func(s *store.Store) string { return fmt.Sprint(s.Make(kind, x, y)) })
	case 8:
		same(fmt.Sprint("Link ", x, y), func(s *store.Store) string { return fmt.Sprint(s.Link(x, y)) })
	default:
		c.agree(x, y, next)
	}
}

// agree calls Agree, and checks also what follows from it.
func (c *twins) agree(x, y int, next func(below int) int) {
	c.Helper()
	before, nodes := typesOf(c.s, x, y), picture(c.s)
	var result came
	c.both(fmt.Sprint("Agree ", x, y), func(s *store.Store) string {
		result = did(s, x, y)
		return fmt.Sprint(result)
	}, func(s *store.Store) string { return fmt.Sprint(byWords(s, x, y)) })
	if result.e == api.OK && picture(c.s) != nodes {
		c.agreed++
	}
	if result.e != api.ErrArg && result.e != api.ErrLimit && len(before) > 0 {
		checkConsequence(c.T, strings.Join(c.log, "; "), before, typesOf(c.s, x, y), result.e, some(next))
	}
}

func TestManyCallsAgainstTheWords(t *testing.T) {
	agreed := 0
	for seed := range int64(1500) {
		random := rand.New(rand.NewSource(seed))
		c := newTwins(t, 1+random.Intn(60))
		for range 60 {
			c.step(random.Intn)
		}
		agreed += c.agreed
	}
	if agreed < 3000 {
		t.Error("there was too little to do: ", agreed)
	}
}

func FuzzAgree(f *testing.F) {
	f.Add(uint8(10), []byte{0, 1, 2, 3, 4, 5, 6, 7, 8, 9})
	f.Add(uint8(60), []byte("some variables, pairs, lists and functions, and all of them agree"))
	f.Fuzz(func(t *testing.T, limit uint8, calls []byte) {
		if len(calls) > 300 {
			return
		}
		c := newTwins(t, int(limit)/2)
		next := func(below int) int {
			if len(calls) == 0 {
				return 0
			}
			n := int(calls[0]) % below
			calls = calls[1:]
			return n
		}
		for len(calls) > 0 {
			c.step(next)
		}
	})
}

// P13.2: the consequences.

// typesOf returns the types of two nodes, if they are nodes and their types are small.
func typesOf(s *store.Store, a, b int) []api.Type {
	left, l := typeOf(s, a, 300)
	right, r := typeOf(s, b, 300)
	if l < 0 || r < 0 || s.Root(a) < 0 || s.Root(b) < 0 {
		return nil
	}
	return []api.Type{left, right}
}

// typeOf returns the type of a node, and how many more nodes than it has there
// might be. It does not count them, as Read would do.
func typeOf(s *store.Store, n, room int) (api.Type, int) {
	t := base(s.Kind(n))
	if t.Kind == api.TVar {
		t.N = s.Root(n)
	}
	for _, kid := range s.Kids(n) {
		if room < 0 {
			break
		}
		var below api.Type
		below, room = typeOf(s, kid, room)
		t.Kids = append(t.Kids, below)
	}
	return t, room - 1
}

// samples are some static closed types.
func samples() []api.Type {
	return []api.Type{i, list(i), pairOf(i, i), b, fun(i, b), list(list(i))}
}

// all calls f with each way to have the first few samples for variables.
func all(few int) func(vars []int, f func(l []api.Bind)) {
	return func(vars []int, f func(l []api.Bind)) {
		types := samples()[:few]
		var choose func(l []api.Bind)
		choose = func(l []api.Bind) {
			if len(l) == len(vars) {
				f(l)
				return
			}
			for _, t := range types {
				choose(append(slices.Clone(l), api.Bind{Var: vars[len(l)], Type: t}))
			}
		}
		choose(nil)
	}
}

// some calls f with some ways to have samples for variables.
func some(next func(below int) int) func(vars []int, f func(l []api.Bind)) {
	return func(vars []int, f func(l []api.Bind)) {
		for range 4 {
			var l []api.Bind
			for _, v := range vars {
				l = append(l, api.Bind{Var: v, Type: samples()[next(6)]})
			}
			f(l)
		}
	}
}

// varsOf returns the variables of types.
func varsOf(types []api.Type) []int {
	var l []int
	for _, t := range types {
		if t.Kind == api.TVar {
			l = append(l, t.N)
		}
		l = append(l, varsOf(t.Kids)...)
	}
	slices.Sort(l)
	return slices.Compact(l)
}

// with returns t with types for its variables.
func with(t *testing.T, x api.Type, l []api.Bind) api.Type {
	t.Helper()
	x, e := scheme.Subst(x, l)
	if e != api.OK {
		t.Fatal(e)
	}
	return x
}

// checkConsequence checks what follows of two types as they were before and after
// they were made to agree, or were found not to agree.
func checkConsequence(t *testing.T, what string, before, after []api.Type, e api.Errno, choices func(vars []int, f func(l []api.Bind))) {
	t.Helper()
	if e != api.OK {
		choices(varsOf(before), func(l []api.Bind) {
			if agree.Agree(with(t, before[0], l), with(t, before[1], l)) {
				t.Fatalf("%s: %v, but %s and %s agree with %v", what, e, text(before[0]), text(before[1]), l)
			}
		})
		return
	}
	choices(varsOf(after), func(l []api.Bind) {
		if !agree.Agree(with(t, after[0], l), with(t, after[1], l)) {
			t.Fatalf("%s: %s and %s do not agree with %v", what, text(after[0]), text(after[1]), l)
		}
	})
}

// written returns a node of a type, whose variables are the nodes 5 and 6.
func written(t *testing.T, s *store.Store, x api.Type) int {
	t.Helper()
	if x.Kind == api.TVar {
		return first + x.N
	}
	if len(x.Kids) == 0 {
		return x.Kind - api.TInt
	}
	kids := []int{0, 0}
	for k := range x.Kids {
		kids[k] = written(t, s, x.Kids[k])
	}
	n, e := s.Make(x.Kind, kids[0], kids[1])
	if e != api.OK {
		t.Fatal(e)
	}
	return n
}

func TestConsequencesOfSmallTypes(t *testing.T) {
	types := append(rightTypes(3, i, d, number(0), number(1)), rightTypes(2, b)...)
	count := map[api.Errno]int{}
	for _, x := range types {
		for _, y := range types {
			s := store.New(60)
			s.Var(2)
			s.Var(3)
			n, m := written(t, s, x), written(t, s, y)
			before := typesOf(s, n, m)
			e := did(s, n, m).e
			count[e]++
			what := text(x) + " and " + text(y)
			checkConsequence(t, what, before, typesOf(s, n, m), e, all(5))
			checkMostGeneral(t, what, s, before, e)
		}
	}
	if len(count) != 3 || count[api.OK] < 100 || count[api.ErrClash] < 100 || count[api.ErrLoop] < 20 {
		t.Error(count)
	}
}

// checkMostGeneral checks that two types agree with just those types for the
// variables 5 and 6 that these can still be.
func checkMostGeneral(t *testing.T, what string, s *store.Store, before []api.Type, e api.Errno) {
	t.Helper()
	n, errno := s.Make(api.TPair, first, first+1)
	if errno != api.OK {
		t.Fatal(errno)
	}
	can, _ := typeOf(s, n, 300)
	all(6)([]int{first, first + 1}, func(l []api.Bind) {
		_, matches := scheme.Match(can, pairOf(l[0].Type, l[1].Type))
		if got := agree.Agree(with(t, before[0], l), with(t, before[1], l)); got != (matches && e == api.OK) {
			t.Fatalf("%s with %v: %v", what, l, got)
		}
	})
}

func TestConsequencesOfLargerTypes(t *testing.T) {
	random := rand.New(rand.NewSource(7))
	count := map[api.Errno]int{}
	for range 6000 {
		s := store.New(api.MaxLimit)
		s.Var(2)
		s.Var(3)
		x := fuzzed(random.Intn, 4)
		y := changed(random.Intn, x)
		n, m := written(t, s, x), written(t, s, y)
		before := typesOf(s, n, m)
		e := did(s, n, m).e
		count[e]++
		what := text(x) + " and " + text(y)
		checkConsequence(t, what, before, typesOf(s, n, m), e, all(3))
		checkMostGeneral(t, what, s, before, e)
	}
	if len(count) != 3 || count[api.OK] < 500 || count[api.ErrClash] < 500 || count[api.ErrLoop] < 100 {
		t.Error(count)
	}
}

// fuzzed builds a type with the variables 0 and 1.
func fuzzed(next func(below int) int, depth int) api.Type {
	if depth > 0 && next(3) > 0 {
		switch next(3) {
		case 0:
			return pairOf(fuzzed(next, depth-1), fuzzed(next, depth-1))
		case 1:
			return fun(fuzzed(next, depth-1), fuzzed(next, depth-1))
		}
		return list(fuzzed(next, depth-1))
	}
	return []api.Type{i, b, d, number(0), number(1)}[next(5)]
}

// changed returns t with other types in some places.
func changed(next func(below int) int, t api.Type) api.Type {
	if next(6) == 0 {
		return fuzzed(next, 2)
	}
	t.Kids = slices.Clone(t.Kids)
	for k := range t.Kids {
		t.Kids[k] = changed(next, t.Kids[k])
	}
	return t
}

// Large types.

// shallow makes calls that are deeper than a store can make them end the program.
func shallow() func() {
	before := debug.SetMaxStack(64 << 20)
	return func() { debug.SetMaxStack(before) }
}

// above makes a node, and from it the next one, and so on.
func above(t *testing.T, s *store.Store, n, times int, next func(n int) (kind, a, b int)) int {
	t.Helper()
	for range times {
		var e api.Errno
		kind, x, y := next(n)
		if n, e = s.Make(kind, x, y); e != api.OK {
			t.Fatal(e)
		}
	}
	return n
}

func TestAVariableBecomesADeepNode(t *testing.T) {
	defer shallow()()
	const depth = 16000
	for _, c := range []struct {
		next    func(n int) (kind, a, b int)
		created int // for each node
	}{
		{func(n int) (int, int, int) { return api.TList, n, 0 }, 2},
		{func(n int) (int, int, int) { return api.TFun, nodeInt, n }, 3},
		{func(n int) (int, int, int) { return api.TPair, n, nodeBool }, 3},
	} {
		for _, turned := range []bool{false, true} {
			s := store.New(1 + depth + depth*c.created)
			s.Var(7)
			n := above(t, s, nodeDyn, depth, c.next)
			x, y := first, n
			if turned {
				x, y = y, x
			}
			if got := did(s, x, y); got != (came{}) || s.Count() != 1+depth+depth*c.created || !s.Static(first) || s.Static(n) {
				t.Error(turned, got, s.Count())
			}
			if vars := s.Vars(first); len(vars) != 1 || s.Level(vars[0]) != 0 {
				t.Error(len(vars))
			}
			s = store.New(depth + depth*c.created)
			s.Var(7)
			n = above(t, s, nodeDyn, depth, c.next)
			if got := did(s, n, first); got != (came{e: api.ErrLimit}) || s.Count() != depth+depth*c.created {
				t.Error(turned, got, s.Count())
			}
		}
	}
}

func TestDeepNodes(t *testing.T) {
	defer shallow()()
	const depth = 30000
	for _, next := range []func(n int) (kind, a, b int){
		func(n int) (int, int, int) { return api.TList, n, 0 },
		func(n int) (int, int, int) { return api.TPair, n, nodeDyn },
		func(n int) (int, int, int) { return api.TFun, nodeInt, n },
	} {
		s := store.New(api.MaxLimit)
		s.Var(7)
		s.Var(8)
		n := above(t, s, first, depth, next)
		m := above(t, s, nodeBool, depth, next)
		if got := did(s, n, m); got != (came{}) || s.Kind(first) != api.TBool || s.Level(first+1) != 8 {
			t.Error(got, s.Kind(first))
		}
		m = above(t, s, m, 1, next)
		if got := did(s, n, m); got.e != api.ErrClash || got.left != api.TBool {
			t.Error(got)
		}
		if got := did(s, first+1, m); s.Static(m) && (got != (came{}) || s.Root(first+1) != m) {
			t.Error(got)
		}
	}
}

// doubled makes a node whose type has more than 2^1000 nodes.
func doubled(t *testing.T, s *store.Store, n, times int) int {
	t.Helper()
	return above(t, s, n, times, func(n int) (int, int, int) { return api.TFun, n, n })
}

func TestNodesThatAreWithinOthersAgainAndAgain(t *testing.T) {
	const times = 1000
	script := "v3 v7 l5 l4 p5,6 p0,4 p4,1 p6,6 l12"
	for _, c := range []struct {
		a, b  int
		want  came
		nodes string
	}{
		{0, 0, came{}, script},
		{0, 1, clash(api.TInt, api.TBool), script},
		{0, 5, came{}, "=0 v7 l5 l4 p5,6 p0,4 p4,1 p6,6 l12"},
		{5, 3, came{}, "=3 v7 l5 l4 p5,6 p0,4 p4,1 p6,6 l12"},
		{5, 6, came{}, "=6 v3 l5 l4 p5,6 p0,4 p4,1 p6,6 l12"},
		{4, 9, came{}, "v0 v0 l5 l4 p5,6 p0,4 p4,1 p6,6 l12"},
		{9, 4, came{}, "v0 v0 l5 l4 p5,6 p0,4 p4,1 p6,6 l12"},
		{7, 8, came{}, "v0 v7 l5 l4 p5,6 p0,4 p4,1 p6,6 l12"},
		{10, 11, came{}, script},
		{9, 10, came{}, "=0 v0 l5 l4 p5,6 p0,4 p4,1 p6,6 l12"},
		{12, 9, came{}, "v3 =5 l5 l4 p5,6 p0,4 p4,1 p6,6 l12"},
		{7, 5, came{e: api.ErrLoop}, script},
		{13, 8, came{}, "v3 v0 l5 l4 p5,6 p0,4 p4,1 p6,6 l12"},
	} {
		s := played(t, 5000, script)
		n, m := doubled(t, s, c.a, times), doubled(t, s, c.b, times)
		got := did(s, n, m)
		now, _, _ := strings.Cut(picture(s), " f")
		if got != c.want || now != c.nodes || s.Count() != 9+2*times {
			t.Errorf("Agree of %d and %d: %v %s, want %v %s", c.a, c.b, got, now, c.want, c.nodes)
		}
	}
}

func TestAVariableBecomesANodeThatHasOneAgainAndAgain(t *testing.T) {
	// It becomes a node of as many nodes as the type has.
	for times, want := range map[int]came{10: {}, 14: {}, 15: {e: api.ErrLimit}, 1000: {e: api.ErrLimit}} {
		s := store.New(api.MaxLimit)
		s.Var(7)
		n := doubled(t, s, nodeDyn, times)
		got := did(s, first, n)
		count := 1 + times + 3*(1<<min(times, 20)-1)
		if got != want || s.Count() != min(count, api.MaxLimit) {
			t.Error(times, got, s.Count())
		}
	}
	// It is linked to one that is static.
	s := store.New(2000)
	s.Var(7)
	s.Var(8)
	n := doubled(t, s, first+1, 1000)
	if got := did(s, first, n); got != (came{}) || s.Root(first) != n || s.Level(first+1) != 7 || s.Count() != 1002 {
		t.Error(got, s.Root(first), s.Count())
	}
}

func TestManyVariables(t *testing.T) {
	const most = 15000
	s := store.New(api.MaxLimit)
	n, m := nodeDyn, nodeDyn
	for k := range most {
		v, _ := s.Var(k)
		w, _ := s.Var(most - k)
		n, _ = s.Make(api.TPair, v, n)
		m, _ = s.Make(api.TPair, w, m)
	}
	if got := did(s, n, m); got != (came{}) || s.Count() != 4*most {
		t.Error(got, s.Count())
	}
	for k := range most {
		if v := first + 4*k; s.Root(v) != v+1 || s.Level(v) != min(k, most-k) {
			t.Fatal(k, s.Root(v), s.Level(v))
		}
	}
}

// The rules.

func TestStoresHaveNothingInCommon(t *testing.T) {
	script := "v3 v2 l4 p5,6 p7,5 f9,8"
	one, other := played(t, 20, script), played(t, 8, "v1 p5,4 f4,6")
	before := picture(other)
	if got := did(one, 8, 9); got != (came{}) {
		t.Error(got)
	}
	if after := picture(other); after != before {
		t.Errorf("%s became %s", before, after)
	}
	if got := did(other, 6, 7); got != clash(api.TPair, api.TFun) {
		t.Error(got)
	}
	again := played(t, 20, script)
	if got := did(again, 8, 9); got != (came{}) || picture(again) != picture(one) {
		t.Error(got, picture(again), picture(one))
	}
}

func TestAgreeAgainChangesNothing(t *testing.T) {
	random := rand.New(rand.NewSource(11))
	for range 2000 {
		s := store.New(api.MaxLimit)
		s.Var(2)
		s.Var(3)
		x := fuzzed(random.Intn, 4)
		n, m := written(t, s, x), written(t, s, changed(random.Intn, x))
		if did(s, n, m).e != api.OK {
			continue
		}
		before := picture(s)
		for _, ends := range [][2]int{{n, m}, {m, n}} {
			if got := did(s, ends[0], ends[1]); got != (came{}) || picture(s) != before {
				t.Fatalf("%s: %v, %s became %s", text(x), got, before, picture(s))
			}
		}
	}
}
