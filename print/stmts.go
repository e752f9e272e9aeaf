package print

import "bobbin/api"

// block puts statements in { }.
func (put text) block(l []api.Stmt) {
	put("{ ")
	for _, s := range l {
		put.stmt(s)
		put(" ")
	}
	put("}")
}

// stmt puts a statement.
func (put text) stmt(s api.Stmt) {
	switch s.Kind {
	case api.Let:
		put("var ", s.Name, " = ")
		put.last(s.E[0])
	case api.Set:
		put(s.Name, " = ")
		put.last(s.E[0])
	case api.Put:
		put(s.Name, "[")
		put.expr(s.E[0])
		put("] = ")
		put.last(s.E[1])
	case api.If:
		put("if ")
		put.ahead(s.E[0], s.Body)
		if len(s.Else) > 0 {
			put(" else ")
			put.block(s.Else)
		}
	case api.While:
		put("while ")
		put.ahead(s.E[0], s.Body)
	case api.With:
		put("with ", s.Name, " ")
		put.block(s.Body)
	case api.Print:
		put("print ")
		put.last(s.E[0])
	case api.Call:
		put.call(s)
	case api.Return:
		put("return ")
		put.last(s.E[0])
	}
}

// last puts the expression that a statement ends by.
func (put text) last(e api.Expr) {
	put.expr(e)
	put(";")
}

// ahead puts an expression ahead of a block.
func (put text) ahead(e api.Expr, l []api.Stmt) {
	put.expr(e)
	put(" ")
	put.block(l)
}

// call puts a Call.
func (put text) call(s api.Stmt) {
	if s.New {
		put("var ")
	}
	if s.To != "" {
		put(s.To, " = ")
	}
	put("call ", s.Name, "(")
	put.list(len(s.E), func(i int) { put.expr(s.E[i]) })
	put(");")
}
