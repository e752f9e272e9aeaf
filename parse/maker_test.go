package parse_test

import (
	"math"
	"strconv"
	"strings"

	"bobbin/api"
	"bobbin/lex"
)

var words = strings.Fields("global array lock func thread var if else while with print call return true false")

var signs = strings.Fields("|| && <= >= == != < > = + - * / % ! ( ) { } [ ] ; ,")

// maker makes programs out of a number, always the same ones, and writes their texts; what it writes gets its place.
type maker struct {
	seed uint32
	text strings.Builder
	last string // the token that was written last
}

func (m *maker) next(n int) int {
	m.seed = m.seed*1664525 + 1013904223
	return int(m.seed>>8) % n
}

// pick is one of some things.
func pick[T any](m *maker, l ...T) T { return l[m.next(len(l))] }

func (m *maker) name() string {
	return pick(m, "x", "y", "_", "A9", "iff", "t0", "print_", strings.Repeat("n", api.MaxName))
}

// some are up to most things.
func some[T any](m *maker, most int, one func() T) []T {
	var out []T
	for range m.next(most + 1) {
		out = append(out, one())
	}
	return out
}

func (m *maker) expr(deep int) api.Expr {
	e := api.Expr{Kind: api.Int + uint8(m.next(3))}
	if deep > 0 {
		e.Kind = api.Int + uint8(m.next(int(api.Or)))
	}
	args := 2
	switch e.Kind {
	case api.Int:
		e.N, args = pick(m, 0, 1, 42, int64(m.next(1000)), math.MaxInt64), 0
	case api.Bool:
		e.N, args = int64(m.next(2)), 0
	case api.Var:
		e.Name, args = m.name(), 0
	case api.Index:
		e.Name, args = m.name(), 1
	case api.Neg, api.Not:
		args = 1
	}
	for range args {
		e.Args = append(e.Args, m.expr(deep-1))
	}
	return e
}

func (m *maker) stmt(deep int) api.Stmt {
	s := api.Stmt{Kind: pick(m, api.Let, api.Set, api.Put, api.Print, api.Call, api.Return)}
	if deep > 0 {
		s.Kind = api.Let + uint8(m.next(int(api.Return)))
	}
	body := func() api.Stmt { return m.stmt(deep - 1) }
	switch s.Kind {
	case api.Let, api.Set, api.Put, api.With, api.Call:
		s.Name = m.name()
	}
	switch s.Kind {
	case api.With:
	case api.Put:
		s.E = []api.Expr{m.expr(2), m.expr(3)}
	case api.Call:
		s.E = some(m, api.MaxParams, func() api.Expr { return m.expr(2) })
		if m.next(3) > 0 {
			s.To, s.New = m.name(), m.next(2) > 0
		}
	default:
		s.E = []api.Expr{m.expr(5)}
	}
	switch s.Kind {
	case api.If:
		s.Body, s.Else = some(m, 3, body), some(m, 2, body)
	case api.While, api.With:
		s.Body = some(m, 3, body)
	}
	return s
}

func (m *maker) decl() api.Decl {
	d := api.Decl{Kind: api.Global + uint8(m.next(int(api.Thread))), Name: m.name()}
	body := func() api.Stmt { return m.stmt(3) }
	switch d.Kind {
	case api.Global:
		d.N = pick(m, 0, -1, 7, math.MaxInt64, math.MinInt64, int64(m.next(1000))-500)
	case api.Array:
		d.N = 1 + int64(m.next(api.MaxSize))
	case api.Func:
		d.Params, d.Body = some(m, api.MaxParams, m.name), some(m, 4, body)
	case api.Thread:
		d.Body = some(m, 4, body)
	}
	return d
}

// program makes a program and its text.
func (m *maker) program() ([]api.Decl, string) {
	m.text.Reset()
	m.last = ""
	l := some(m, 6, m.decl)
	for i := range l {
		m.writeDecl(&l[i])
	}
	m.text.WriteString(pick(m, "", " ", "\n", "\t# behind all"))
	return l, m.text.String()
}

// put writes tokens, with something idle between, or with nothing where that may be; it answers the first one's place.
func (m *maker) put(tokens ...string) int {
	first := -1
	for _, x := range tokens {
		gap := pick(m, "", "", " ", "  ", "\n", "\t", " # if } ;\n", "#\n")
		if both, _, err := lex.Tokens(m.last + x); gap == "" && m.last != "" && (err != api.OK || len(both) != 2 || both[1].Text != x) {
			gap = " "
		}
		m.text.WriteString(gap)
		if first < 0 {
			first = m.text.Len()
		}
		m.text.WriteString(x)
		m.last = x
	}
	return first
}

func (m *maker) writeDecl(d *api.Decl) {
	d.At = m.put([]string{"", "global", "array", "lock", "func", "thread"}[d.Kind], d.Name)
	digits := strings.TrimPrefix(strconv.FormatInt(d.N, 10), "-")
	switch d.Kind {
	case api.Global:
		m.put("=")
		if d.N < 0 || d.N == 0 && m.next(2) > 0 {
			m.put("-")
		}
		m.put(digits, ";")
	case api.Array:
		m.put("[", digits, "]", ";")
	case api.Lock:
		m.put(";")
	case api.Func:
		m.put("(")
		for i, p := range d.Params {
			if i > 0 {
				m.put(",")
			}
			m.put(p)
		}
		m.put(")")
		m.writeBlock(d.Body)
	case api.Thread:
		m.writeBlock(d.Body)
	}
}

func (m *maker) writeBlock(l []api.Stmt) {
	m.put("{")
	for i := range l {
		m.writeStmt(&l[i])
	}
	m.put("}")
}

func (m *maker) writeStmt(s *api.Stmt) {
	switch s.Kind {
	case api.Let:
		s.At = m.put("var", s.Name, "=")
		m.writeExprs(s.E, ",")
		m.put(";")
	case api.Set:
		s.At = m.put(s.Name, "=")
		m.writeExprs(s.E, ",")
		m.put(";")
	case api.Put:
		s.At = m.put(s.Name, "[")
		m.writeExprs(s.E[:1], ",")
		m.put("]", "=")
		m.writeExprs(s.E[1:], ",")
		m.put(";")
	case api.If:
		s.At = m.put("if")
		m.writeExprs(s.E, ",")
		m.writeBlock(s.Body)
		if len(s.Else) > 0 || m.next(4) == 0 {
			m.put("else")
			m.writeBlock(s.Else)
		}
	case api.While:
		s.At = m.put("while")
		m.writeExprs(s.E, ",")
		m.writeBlock(s.Body)
	case api.With:
		s.At = m.put("with", s.Name)
		m.writeBlock(s.Body)
	case api.Print, api.Return:
		s.At = m.put(map[uint8]string{api.Print: "print", api.Return: "return"}[s.Kind])
		m.writeExprs(s.E, ",")
		m.put(";")
	case api.Call:
		m.writeCall(s)
	}
}

func (m *maker) writeCall(s *api.Stmt) {
	at := -1
	if s.New {
		at = m.put("var", s.To, "=")
	} else if s.To != "" {
		at = m.put(s.To, "=")
	}
	s.At = m.put("call", s.Name, "(")
	if at >= 0 {
		s.At = at
	}
	m.writeExprs(s.E, ",")
	m.put(")", ";")
}

func (m *maker) writeExprs(l []api.Expr, between string) {
	for i := range l {
		if i > 0 {
			m.put(between)
		}
		m.writeExpr(&l[i], 0)
	}
}

// strength says how strongly a Kind binds.
func strength(kind uint8) int {
	switch kind {
	case api.Or:
		return 1
	case api.And:
		return 2
	case api.Less, api.LessEq, api.Equal, api.Unlike:
		return 3
	case api.Add, api.Sub:
		return 4
	case api.Mul, api.Div, api.Mod:
		return 5
	case api.Neg, api.Not:
		return 6
	}
	return 7
}

// signOf is a Kind's sign, and whether it stands between sides that change places.
func (m *maker) signOf(kind uint8) (string, bool) {
	turned := (kind == api.Less || kind == api.LessEq) && m.next(2) > 0
	if turned {
		return []string{">", ">="}[kind-api.Less], true
	}
	return strings.Fields("- ! + - * / % < <= == != && ||")[kind-api.Neg], false
}

// writeExpr writes an expression, in brackets, if it binds less than asked, and at times else.
func (m *maker) writeExpr(e *api.Expr, least int) {
	if strength(e.Kind) < least || m.next(12) == 0 {
		m.put("(")
		m.writeExpr(e, 0)
		m.put(")")
		return
	}
	switch s := strength(e.Kind); e.Kind {
	case api.Int:
		e.At = m.put(strconv.FormatInt(e.N, 10))
	case api.Bool:
		e.At = m.put([]string{"false", "true"}[e.N])
	case api.Var:
		e.At = m.put(e.Name)
	case api.Index:
		e.At = m.put(e.Name, "[")
		m.writeExpr(&e.Args[0], 0)
		m.put("]")
	case api.Neg, api.Not:
		sign, _ := m.signOf(e.Kind)
		e.At = m.put(sign)
		m.writeExpr(&e.Args[0], s)
	default:
		sign, turned := m.signOf(e.Kind)
		left, right, most := &e.Args[0], &e.Args[1], s
		if turned {
			left, right = right, left
		}
		if s == 3 {
			most++
		}
		m.writeExpr(left, most)
		e.At = m.put(sign)
		m.writeExpr(right, s+1)
	}
}
