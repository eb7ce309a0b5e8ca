package parse

import (
	"math/rand"
	"slices"
	"strings"

	"surety/api"
	"surety/lex"
)

// The tests hold Parse against the grammar as the chapters write it: as a list
// of rules, each with what it stands for. Which token cannot stand in its place
// is told by going through all rules at once (Earley's way), and what a program
// stands for by trying all ways to divide its tokens among the parts of a rule.

// part is what one symbol of a rule stands for in a source.
type part struct {
	at    api.Span
	token api.Token
	name  string // of a param
	t     api.Type
	p     api.Pat
	e     api.Expr
	pats  []api.Pat
	arms  []api.Expr
}

// rule is one form of a part of the grammar.
type rule struct {
	left  string
	right []string
	build func(l []part) part
}

// exprRule is a form that gives an expression. The roles say, symbol by symbol,
// what becomes of them. It extends from its first symbol to its last one.
func exprRule(left, right string, e api.Expr, roles string) rule {
	return rule{left, strings.Fields(right), func(l []part) part {
		e := e
		e.At = spanOf(l)
		for i, role := range strings.Fields(roles) {
			switch role {
			case "name":
				e.Name = l[i].token.S
			case "param":
				e.Name, e.A = l[i].name, l[i].t
			case "arg":
				e.Arg, e.A = l[i].name, l[i].t
			case "A":
				e.A = l[i].t
			case "B":
				e.B = l[i].t
			case "n":
				e.N = l[i].token.N
			case "s":
				e.S = l[i].token.S
			case "kid":
				e.Kids = append(slices.Clip(e.Kids), l[i].e)
			case "arms":
				e.Pats = l[i].pats
				e.Kids = append(slices.Clip(e.Kids), l[i].arms...)
			}
		}
		return part{at: e.At, e: e}
	}}
}

func patRule(left, right string, p api.Pat, roles string) rule {
	return rule{left, strings.Fields(right), func(l []part) part {
		p := p
		p.At = spanOf(l)
		for i, role := range strings.Fields(roles) {
			switch role {
			case "name":
				p.Name = l[i].token.S
			case "n":
				p.N = l[i].token.N
			case "s":
				p.S = l[i].token.S
			case "kid":
				p.Kids = append(slices.Clip(p.Kids), l[i].p)
			}
		}
		return part{at: p.At, p: p}
	}}
}

// typeRule is a form that gives a type, of which the kids are at the places given.
func typeRule(left, right string, kind int, kids ...int) rule {
	return rule{left, strings.Fields(right), func(l []part) part {
		t := api.Type{Kind: kind}
		for _, i := range kids {
			t.Kids = append(t.Kids, l[i].t)
		}
		return part{at: spanOf(l), t: t}
	}}
}

// sameRule is a form that stands for what one of its symbols stands for.
func sameRule(left, right string, i int) rule {
	return rule{left, strings.Fields(right), func(l []part) part { return l[i] }}
}

func paramRule(right string, build func(l []part) part) rule {
	return rule{"param", strings.Fields(right), build}
}

func spanOf(l []part) api.Span { return api.Span{From: l[0].at.From, To: l[len(l)-1].at.To} }

func rules() []rule {
	kind := func(kind int) api.Expr { return api.Expr{Kind: kind} }
	op := func(op int) api.Expr { return api.Expr{Kind: api.EOp, Op: op} }
	l := []rule{
		exprRule("expr", "let NAME = expr in expr", kind(api.ELet), "_ name _ kid _ kid"),
		exprRule("expr", "let NAME : type = expr in expr", kind(api.ELet), "_ name _ A _ kid _ kid"),
		exprRule("expr", "let rec NAME param = expr in expr", kind(api.ERec), "_ _ name arg _ kid _ kid"),
		exprRule("expr", "let rec NAME param : type = expr in expr", kind(api.ERec), "_ _ name arg _ B _ kid _ kid"),
		exprRule("expr", "fun param -> expr", kind(api.EFun), "_ param _ kid"),
		exprRule("expr", "if expr then expr else expr", kind(api.EIf), "_ kid _ kid _ kid"),
		exprRule("expr", "match expr with arms end", kind(api.EMatch), "_ kid _ arms _"),
		sameRule("expr", "cmp", 0),
		{"arms", strings.Fields("pat -> expr"), func(l []part) part {
			return part{at: spanOf(l), pats: []api.Pat{l[0].p}, arms: []api.Expr{l[2].e}}
		}},
		{"arms", strings.Fields("arms | pat -> expr"), func(l []part) part {
			return part{at: spanOf(l), pats: append(slices.Clip(l[0].pats), l[2].p), arms: append(slices.Clip(l[0].arms), l[4].e)}
		}},
		paramRule("NAME", func(l []part) part { return part{at: spanOf(l), name: l[0].token.S} }),
		paramRule("( NAME : type )", func(l []part) part { return part{at: spanOf(l), name: l[1].token.S, t: l[3].t} }),
		sameRule("cmp", "cons", 0),
		exprRule("cmp", "cons < cons", op(api.OpLess), "kid _ kid"),
		exprRule("cmp", "cons = cons", op(api.OpSame), "kid _ kid"),
		exprRule("cmp", "cons == cons", op(api.OpText), "kid _ kid"),
		sameRule("cons", "sum", 0),
		exprRule("cons", "sum :: cons", kind(api.ECons), "kid _ kid"),
		sameRule("sum", "prod", 0),
		exprRule("sum", "sum + prod", op(api.OpAdd), "kid _ kid"),
		exprRule("sum", "sum - prod", op(api.OpSub), "kid _ kid"),
		sameRule("prod", "app", 0),
		exprRule("prod", "prod * app", op(api.OpMul), "kid _ kid"),
		exprRule("prod", "prod / app", op(api.OpDiv), "kid _ kid"),
		sameRule("app", "atom", 0),
		exprRule("app", "app atom", kind(api.EApp), "kid kid"),
		exprRule("atom", "NAME", kind(api.EName), "name"),
		exprRule("atom", "NUM", kind(api.EInt), "n"),
		exprRule("atom", "STR", kind(api.EStr), "s"),
		exprRule("atom", "true", api.Expr{Kind: api.EBool, N: 1}, ""),
		exprRule("atom", "false", kind(api.EBool), ""),
		exprRule("atom", "( )", kind(api.EUnit), ""),
		exprRule("atom", "[ ]", kind(api.ENil), ""),
		sameRule("atom", "( expr )", 1),
		exprRule("atom", "( expr , expr )", kind(api.EPair), "_ kid _ kid"),
		exprRule("atom", "( expr : type )", kind(api.EAsc), "_ kid _ A"),
	}
	return append(append(l, patRules()...), typeRules()...)
}

func patRules() []rule {
	kind := func(kind int) api.Pat { return api.Pat{Kind: kind} }
	return []rule{
		sameRule("pat", "pop", 0),
		patRule("pat", "pop :: pat", kind(api.PCons), "kid _ kid"),
		patRule("pop", "_", kind(api.PAny), ""),
		patRule("pop", "NAME", kind(api.PName), "name"),
		patRule("pop", "NUM", kind(api.PInt), "n"),
		patRule("pop", "STR", kind(api.PStr), "s"),
		patRule("pop", "true", api.Pat{Kind: api.PBool, N: 1}, ""),
		patRule("pop", "false", kind(api.PBool), ""),
		patRule("pop", "( )", kind(api.PUnit), ""),
		patRule("pop", "[ ]", kind(api.PNil), ""),
		sameRule("pop", "( pat )", 1),
		patRule("pop", "( pat , pat )", kind(api.PPair), "_ kid _ kid"),
	}
}

func typeRules() []rule {
	return []rule{
		sameRule("type", "product", 0),
		typeRule("type", "product -> type", api.TFun, 0, 2),
		sameRule("product", "post", 0),
		typeRule("product", "post * post", api.TPair, 0, 2),
		sameRule("post", "leaf", 0),
		typeRule("post", "post list", api.TList, 0),
		typeRule("leaf", "int", api.TInt),
		typeRule("leaf", "bool", api.TBool),
		typeRule("leaf", "string", api.TStr),
		typeRule("leaf", "unit", api.TUnit),
		typeRule("leaf", "?", api.TDyn),
		sameRule("leaf", "( type )", 1),
	}
}

// item is a rule of which so many symbols have been gone through, from a token on.
type item struct{ rule, dot, from int }

// oracle tells what Parse has to return. It keeps what it found out about the
// tokens that it was asked for last: those of the next source often begin alike.
type oracle struct {
	rules  []rule
	byLeft map[string][]int
	last   []string
	sets   [][]item
}

func newOracle() *oracle {
	o := &oracle{rules: rules(), byLeft: map[string][]int{}}
	for i, r := range o.rules {
		o.byLeft[r.left] = append(o.byLeft[r.left], i)
	}
	o.sets = [][]item{nil}
	for _, i := range o.byLeft["expr"] {
		o.sets[0] = append(o.sets[0], item{i, 0, 0})
	}
	o.complete()
	return o
}

// symbol is the symbol of the grammar that a token is.
func symbol(t api.Token) string {
	switch t.Kind {
	case api.KName:
		return "NAME"
	case api.KNum:
		return "NUM"
	case api.KStr:
		return "STR"
	}
	return t.S
}

// wanted returns the symbol behind the dot of an item, and "" at its end.
func (o *oracle) wanted(x item) string {
	if r := o.rules[x.rule]; x.dot < len(r.right) {
		return r.right[x.dot]
	}
	return ""
}

// complete adds to the last set what follows from it: the rules of the parts
// that are wanted, and what goes on behind a part that is at its end.
func (o *oracle) complete() {
	here := len(o.sets) - 1
	set := o.sets[here]
	seen := map[item]struct{}{}
	for _, x := range set {
		seen[x] = struct{}{}
	}
	add := func(x item) {
		if _, ok := seen[x]; !ok {
			seen[x] = struct{}{}
			set = append(set, x)
		}
	}
	for i := 0; i < len(set); i++ {
		x := set[i]
		wanted := o.wanted(x)
		for _, r := range o.byLeft[wanted] {
			add(item{r, 0, here})
		}
		if wanted != "" {
			continue
		}
		// No part is empty, so that the set in which it begins is an earlier one.
		for _, y := range o.sets[x.from] {
			if o.wanted(y) == o.rules[x.rule].left {
				add(item{y.rule, y.dot + 1, y.from})
			}
		}
	}
	o.sets[here] = set
}

// step goes behind one more token, if it can stand there.
func (o *oracle) step(s string) bool {
	var set []item
	for _, x := range o.sets[len(o.sets)-1] {
		if o.wanted(x) == s {
			set = append(set, item{x.rule, x.dot + 1, x.from})
		}
	}
	if set == nil {
		return false
	}
	o.last = append(o.last, s)
	o.sets = append(o.sets, set)
	o.complete()
	return true
}

// again reports whether token i is a NAME that already occurs in the pattern
// that it is a part of. That begins where arms were wanted last.
func (o *oracle) again(l []api.Token, i int) bool {
	if l[i].Kind != api.KName || !o.begins("pop", i) {
		return false
	}
	from := i
	for !o.begins("pat", from) || !o.begins("arms", from) && l[from-1].S != "|" {
		from--
	}
	return slices.ContainsFunc(l[from:i], func(t api.Token) bool { return t.Kind == api.KName && t.S == l[i].S })
}

// begins reports whether a part of the grammar may begin at token i.
func (o *oracle) begins(left string, i int) bool {
	return slices.ContainsFunc(o.sets[i], func(x item) bool { return x.dot == 0 && o.rules[x.rule].left == left })
}

// program returns the index of the first token that cannot stand in its place
// and whether the tokens ahead of it are a program.
func (o *oracle) program(l []api.Token) (int, bool) {
	common := 0
	for common < min(len(l), len(o.last)) && symbol(l[common]) == o.last[common] {
		common++
	}
	o.last, o.sets = o.last[:common], o.sets[:common+1]
	for i := range l {
		if i >= common && !o.step(symbol(l[i])) || o.again(l, i) {
			return i, false
		}
	}
	return len(l), slices.ContainsFunc(o.sets[len(l)], func(x item) bool {
		return x.from == 0 && o.wanted(x) == "" && o.rules[x.rule].left == "expr"
	})
}

// place is a part of the grammar with tokens from one index up to another.
type place struct {
	left     string
	from, to int
}

// derivation finds out what tokens stand for.
type derivation struct {
	*oracle
	l     []api.Token
	found map[place]*part
}

// of returns what tokens stand for as a part of the grammar, or nil.
func (d *derivation) of(left string, from, to int) *part {
	if d.byLeft[left] == nil {
		if to != from+1 || symbol(d.l[from]) != left {
			return nil
		}
		t := d.l[from]
		return &part{at: api.Span{From: t.From, To: t.To}, token: t}
	}
	at := place{left, from, to}
	if p, ok := d.found[at]; ok {
		return p
	}
	d.found[at] = nil
	for _, i := range d.byLeft[left] {
		if l := d.divide(d.rules[i].right, from, to); l != nil {
			p := d.rules[i].build(l)
			d.found[at] = &p
		}
	}
	return d.found[at]
}

// divide divides tokens among symbols.
func (d *derivation) divide(symbols []string, from, to int) []part {
	if len(symbols) == 1 {
		if p := d.of(symbols[0], from, to); p != nil {
			return []part{*p}
		}
		return nil
	}
	for middle := from + 1; middle <= to-len(symbols)+1; middle++ {
		first := d.of(symbols[0], from, middle)
		if first == nil {
			continue
		}
		if rest := d.divide(symbols[1:], middle, to); rest != nil {
			return append([]part{*first}, rest...)
		}
	}
	return nil
}

// want returns what Parse has to return for a source.
func (o *oracle) want(source string) (e api.Expr, at int, err api.Errno) {
	l, at, err := lex.Scan([]byte(source))
	if err != api.OK {
		return api.Expr{}, at, err
	}
	i, ok := o.program(l)
	switch {
	case i < len(l):
		return api.Expr{}, l[i].From, api.ErrText
	case !ok:
		return api.Expr{}, len(source), api.ErrText
	}
	d := derivation{o, l, map[place]*part{}}
	return d.of("expr", 0, len(l)).e, 0, api.OK
}

// writer writes sources by chance, and knows what they stand for.
type writer struct {
	*oracle
	chance *rand.Rand
	source string
	last   string
	names  int
	least  map[string]int
}

func newWriter(o *oracle, seed int64) *writer {
	w := &writer{oracle: o, chance: rand.New(rand.NewSource(seed)), least: map[string]int{}}
	for more := true; more; {
		more = false
		for _, r := range o.rules {
			height, ok := w.height(r)
			if old, known := w.least[r.left]; ok && (!known || height < old) {
				w.least[r.left], more = height, true
			}
		}
	}
	return w
}

// height returns how high the least tree of a rule is, as far as it is known.
func (w *writer) height(r rule) (int, bool) {
	height := 0
	for _, s := range r.right {
		if w.byLeft[s] == nil {
			continue
		}
		least, ok := w.least[s]
		if !ok {
			return 0, false
		}
		height = max(height, least)
	}
	return height + 1, true
}

// write writes a part of the grammar, by its least rules where there is no room
// for more or the source is long.
func (w *writer) write(left string, room int) part {
	if w.byLeft[left] == nil {
		return w.token(left)
	}
	if len(w.source) > 500 {
		room = 0
	}
	var l []rule
	for _, i := range w.byLeft[left] {
		r := w.rules[i]
		if height, _ := w.height(r); height <= room || height == w.least[left] {
			l = append(l, r)
		}
	}
	r := l[w.chance.Intn(len(l))]
	var parts []part
	for _, s := range r.right {
		parts = append(parts, w.write(s, room-1))
	}
	return r.build(parts)
}

// token writes one token, with blanks ahead of it or, where it is a token of its
// own without them, none. All names are different.
func (w *writer) token(s string) part {
	switch s {
	case "NAME":
		w.names++
		s = "n" + strings.Repeat("'", w.names%3) + string(rune('A'+w.names%26)) + strings.Repeat("0", w.names/26%20)
		s += strings.Repeat("_", w.names/520)
	case "NUM":
		s = []string{"0", "7", "~1", "4711", "9223372036854775807", "~9223372036854775808"}[w.chance.Intn(6)]
	case "STR":
		s = []string{`""`, `"a"`, `"("`, `"# \22"`, `"in"`, `"\0a"`}[w.chance.Intn(6)]
	}
	blank := []string{"", "", "", " ", "  ", "\n", "\t#)\n\r"}[w.chance.Intn(7)]
	l, _, _ := lex.Scan([]byte(w.last + s))
	if blank == "" && w.last != "" && (len(l) != 2 || l[0].To != len(w.last)) {
		blank = " "
	}
	w.source, w.last = w.source+blank+s, s
	l, _, _ = lex.Scan([]byte(s))
	return part{at: api.Span{From: len(w.source) - len(s), To: len(w.source)}, token: l[0]}
}
