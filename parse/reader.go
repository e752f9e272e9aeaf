package parse

import (
	"strconv"

	"bobbin/api"
	"bobbin/lex"
)

// fault is what is thrown at the first token that may not stand where it stands.
type fault struct{ at int }

// reader goes through tokens, from the first one on.
type reader struct {
	tokens []api.Token // the last one, of no Kind and no Text, stands at the text's end
	next   int
	decls  map[string]func(*reader) api.Decl
	stmts  map[string]func(*reader) api.Stmt
}

// read reads all tokens of a text that ends at a place.
func read(tokens []api.Token, end int) (l []api.Decl, at int, err api.Errno) {
	defer func() {
		switch x := recover().(type) {
		case nil:
		case fault:
			at, err = x.at, api.ErrSyntax
		default:
			panic(x)
		}
	}()
	r := &reader{tokens: append(tokens, api.Token{At: end}), decls: declReaders(), stmts: stmtReaders()}
	return r.program(), 0, api.OK
}

// refuse throws that the next token may not stand there.
func (r *reader) refuse() { panic(fault{r.at()}) }

// at is the next token's place.
func (r *reader) at() int { return r.tokens[r.next].At }

// text is the next token's text. It tells a word or a sign by itself, since no two Kinds have a text in common.
func (r *reader) text() string { return r.tokens[r.next].Text }

// passes goes on behind a word or a sign, if it is next, and says whether it was.
func (r *reader) passes(text string) bool {
	if r.text() != text {
		return false
	}
	r.next++
	return true
}

// take goes on behind a word or a sign that has to be next.
func (r *reader) take(text string) {
	if !r.passes(text) {
		r.refuse()
	}
}

// name reads a name.
func (r *reader) name() string {
	s := r.text()
	if !lex.Name(s) {
		r.refuse()
	}
	r.next++
	return s
}

// number reads a number, of which the sign ahead, if there is one, was read. The sign is read together with
// the digits, since the least number has no counterpart above 0.
func (r *reader) number(sign string) int64 {
	t := r.tokens[r.next]
	n, err := strconv.ParseInt(sign+t.Text, 10, 64)
	if t.Kind != api.Number || err != nil {
		r.refuse()
	}
	r.next++
	return n
}

// list reads what stands in ( ), none or more, with a comma between.
func list[T any](r *reader, one func(*reader) T) []T {
	r.take("(")
	var out []T
	if r.passes(")") {
		return out
	}
	for {
		out = append(out, one(r))
		if r.passes(")") {
			return out
		}
		r.take(",")
	}
}
