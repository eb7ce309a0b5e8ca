package parse

import (
	"surety/api"
	"surety/note"
)

// reader goes through the tokens of a source. The first token that cannot stand
// in its place stops it there: it goes no further and finds no more tokens, so
// that whatever is begun ends without asking for the error, and what has been
// read is not used.
type reader struct {
	l       []api.Token
	next    int
	stopped bool
}

// peek returns the next token. Its Kind is 0 if there is none.
func (r *reader) peek() api.Token {
	if r.stopped || r.next == len(r.l) {
		return api.Token{}
	}
	return r.l[r.next]
}

// take goes behind the next token if it is the key word or the sign s.
func (r *reader) take(s string) bool {
	t := r.peek()
	if t.Kind != api.KWord && t.Kind != api.KSign || t.S != s {
		return false
	}
	r.next++
	return true
}

// need goes behind the next token, which has to be the key word or the sign s,
// and returns it.
func (r *reader) need(s string) api.Token {
	t := r.peek()
	if !r.take(s) {
		r.stopped = true
	}
	return t
}

// name goes behind the next token, which has to be a name.
func (r *reader) name() string {
	t := r.peek()
	if t.Kind != api.KName {
		r.stopped = true
		return ""
	}
	r.next++
	return t.S
}

// typ reads the type that has to come next.
func (r *reader) typ() api.Type {
	if r.stopped {
		return api.Type{}
	}
	t, next, e := note.Read(r.l, r.next)
	r.next, r.stopped = next, e != api.OK
	return t
}
