package parse

import "bobbin/api"

// stmtReaders are the methods that read a statement, by the word that it begins by; they go on behind that word.
func stmtReaders() map[string]func(*reader) api.Stmt {
	return map[string]func(*reader) api.Stmt{
		"var":    (*reader).varStmt,
		"if":     (*reader).ifStmt,
		"while":  (*reader).whileStmt,
		"with":   (*reader).withStmt,
		"print":  (*reader).printStmt,
		"call":   (*reader).callStmt,
		"return": (*reader).returnStmt,
	}
}

// block reads statements in { }.
func (r *reader) block() []api.Stmt {
	r.take("{")
	var out []api.Stmt
	for !r.passes("}") {
		out = append(out, r.stmt())
	}
	return out
}

// stmt reads a statement: one that begins by none of the words begins by a name.
func (r *reader) stmt() api.Stmt {
	at := r.at()
	read, ok := r.stmts[r.text()]
	if ok {
		r.next++
	} else {
		read = (*reader).nameStmt
	}
	s := read(r)
	s.At = at
	return s
}

func (r *reader) varStmt() api.Stmt { return r.becomes(api.Let, r.name()) }

func (r *reader) nameStmt() api.Stmt {
	name := r.name()
	if !r.passes("[") {
		return r.becomes(api.Set, name)
	}
	place := r.expr()
	r.take("]")
	r.take("=")
	value := r.expr()
	r.take(";")
	return api.Stmt{Kind: api.Put, Name: name, E: []api.Expr{place, value}}
}

// becomes reads what a name becomes: of a call the Kind is told by New alone.
func (r *reader) becomes(kind uint8, name string) api.Stmt {
	r.take("=")
	if r.passes("call") {
		s := r.callStmt()
		s.To, s.New = name, kind == api.Let
		return s
	}
	s := api.Stmt{Kind: kind, Name: name, E: []api.Expr{r.expr()}}
	r.take(";")
	return s
}

func (r *reader) callStmt() api.Stmt {
	s := api.Stmt{Kind: api.Call, Name: r.name()}
	s.E = list(r, (*reader).expr)
	r.take(";")
	return s
}

func (r *reader) ifStmt() api.Stmt {
	s := api.Stmt{Kind: api.If, E: []api.Expr{r.expr()}}
	s.Body = r.block()
	if r.passes("else") {
		s.Else = r.block()
	}
	return s
}

func (r *reader) whileStmt() api.Stmt {
	s := api.Stmt{Kind: api.While, E: []api.Expr{r.expr()}}
	s.Body = r.block()
	return s
}

func (r *reader) withStmt() api.Stmt {
	s := api.Stmt{Kind: api.With, Name: r.name()}
	s.Body = r.block()
	return s
}

func (r *reader) printStmt() api.Stmt { return r.told(api.Print) }

func (r *reader) returnStmt() api.Stmt { return r.told(api.Return) }

// told reads a statement that has an expression alone.
func (r *reader) told(kind uint8) api.Stmt {
	s := api.Stmt{Kind: kind, E: []api.Expr{r.expr()}}
	r.take(";")
	return s
}
