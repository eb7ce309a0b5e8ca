package print

import (
	"iter"

	"surety/api"
	"surety/word"
)

// The texts of what has the same one as an expression and as a pattern.
const (
	unit = "()"
	null = "[]"
)

// signs are those of the operators, each at its number.
var signs = [...]string{
	api.OpAdd:  "+",
	api.OpSub:  "-",
	api.OpMul:  "*",
	api.OpDiv:  "/",
	api.OpLess: "<",
	api.OpSame: "=",
	api.OpText: "==",
}

// node is what the text of a node of a tree consists of: the texts around its
// kids, which are one more than these, and the kids.
type node[N any] struct {
	texts []string
	kids  []N
}

// pieces ranges over the text of a tree piece by piece. What is begun is kept
// in a stack, since a tree may be deeper than calls can be.
func pieces[N any](root N, of func(N) node[N]) iter.Seq[string] {
	return func(yield func(string) bool) {
		begun := []node[N]{of(root)}
		for len(begun) > 0 {
			top := &begun[len(begun)-1]
			if !yield(top.texts[0]) {
				return
			}
			if len(top.kids) == 0 {
				begun = begun[:len(begun)-1]
				continue
			}
			kid := top.kids[0]
			top.texts, top.kids = top.texts[1:], top.kids[1:]
			begun = append(begun, of(kid))
		}
	}
}

// pair returns the texts around the kids of a pair.
func pair() []string { return []string{"(", ", ", ")"} }

// infix returns the texts around two kids with a sign between them, of which
// those that are told to be are enclosed in parentheses.
func infix(sign string, first, second bool) []string {
	texts := []string{"", sign, ""}
	if first {
		texts[0], texts[1] = "(", ")"+texts[1]
	}
	if second {
		texts[1], texts[2] = texts[1]+"(", ")"
	}
	return texts
}

// truth returns the text of a truth value.
func truth(n int64) string {
	if n == 0 {
		return "false"
	}
	return "true"
}

// literal returns the literal of a string that is not too long for one.
func literal(s string) string {
	quoted, _ := word.Quote(s)
	return quoted
}
