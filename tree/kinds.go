package tree

import (
	"math"
	"slices"

	"bobbin/api"
)

// exprHas is what a Kind of expressions has.
type exprHas struct {
	name bool
	most int64 // N is from 0 to this one
	args int
}

var exprKinds = [...]exprHas{
	api.Int:    {most: math.MaxInt64},
	api.Bool:   {most: 1},
	api.Var:    {name: true},
	api.Index:  {name: true, args: 1},
	api.Neg:    {args: 1},
	api.Not:    {args: 1},
	api.Add:    {args: 2},
	api.Sub:    {args: 2},
	api.Mul:    {args: 2},
	api.Div:    {args: 2},
	api.Mod:    {args: 2},
	api.Less:   {args: 2},
	api.LessEq: {args: 2},
	api.Equal:  {args: 2},
	api.Unlike: {args: 2},
	api.And:    {args: 2},
	api.Or:     {args: 2},
}

// stmtHas is what a Kind of statements has.
type stmtHas struct {
	name        bool
	least, most int // how many E
	body, other bool
	to          bool // perhaps a To, and then perhaps New
}

var stmtKinds = [...]stmtHas{
	api.Let:    {name: true, least: 1, most: 1},
	api.Set:    {name: true, least: 1, most: 1},
	api.Put:    {name: true, least: 2, most: 2},
	api.If:     {least: 1, most: 1, body: true, other: true},
	api.While:  {least: 1, most: 1, body: true},
	api.With:   {name: true, body: true},
	api.Print:  {least: 1, most: 1},
	api.Call:   {name: true, most: api.MaxParams, to: true},
	api.Return: {least: 1, most: 1},
}

// declHas is what a Kind of declarations has, beside the Name that all of them have.
type declHas struct {
	least, most int64 // N is from the one to the other
	params      int
	body        bool
}

var declKinds = [...]declHas{
	api.Global: {least: math.MinInt64, most: math.MaxInt64},
	api.Array:  {least: 1, most: api.MaxSize},
	api.Lock:   {},
	api.Func:   {params: api.MaxParams, body: true},
	api.Thread: {body: true},
}

// fits says whether a part has what its Kind has, and nothing else; what is in it is not asked.
func (p part) fits() bool {
	if p.stmt != nil {
		return fitsStmt(*p.stmt)
	}
	return fitsExpr(*p.expr)
}

// fitsExpr is fits of an expression.
func fitsExpr(e api.Expr) bool {
	if e.Kind < api.Int || e.Kind > api.Or {
		return false
	}
	has := exprKinds[e.Kind]
	return fitsName(e.Name, has.name) && 0 <= e.N && e.N <= has.most && len(e.Args) == has.args
}

// fitsStmt is fits of a statement.
func fitsStmt(s api.Stmt) bool {
	if s.Kind < api.Let || s.Kind > api.Return {
		return false
	}
	has := stmtKinds[s.Kind]
	return fitsName(s.Name, has.name) && fitsTo(s, has.to) &&
		has.least <= len(s.E) && len(s.E) <= has.most &&
		(has.body || len(s.Body) == 0) && (has.other || len(s.Else) == 0)
}

// fitsDecl is fits of a declaration.
func fitsDecl(d api.Decl) bool {
	if d.Kind < api.Global || d.Kind > api.Thread {
		return false
	}
	has := declKinds[d.Kind]
	return Name(d.Name) && has.least <= d.N && d.N <= has.most &&
		len(d.Params) <= has.params && all(slices.Values(d.Params), Name) &&
		(has.body || len(d.Body) == 0)
}

// fitsName says whether a text is a name where there is to be one, and else empty.
func fitsName(s string, asked bool) bool {
	if asked {
		return Name(s)
	}
	return s == ""
}

// fitsTo says whether a statement's To and New may be: where it may have them, and where not.
func fitsTo(s api.Stmt, may bool) bool {
	if s.To == "" {
		return !s.New
	}
	return may && Name(s.To)
}
