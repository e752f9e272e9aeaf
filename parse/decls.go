package parse

import "bobbin/api"

// declReaders are the methods that read a declaration, by the word that it begins by; they go on behind that word.
func declReaders() map[string]func(*reader) api.Decl {
	return map[string]func(*reader) api.Decl{
		"global": (*reader).globalDecl,
		"array":  (*reader).arrayDecl,
		"lock":   (*reader).lockDecl,
		"func":   (*reader).funcDecl,
		"thread": (*reader).threadDecl,
	}
}

// program reads declarations up to the text's end.
func (r *reader) program() []api.Decl {
	var out []api.Decl
	for r.next < len(r.tokens)-1 {
		out = append(out, r.decl())
	}
	return out
}

// decl reads a declaration.
func (r *reader) decl() api.Decl {
	at := r.at()
	read, ok := r.decls[r.text()]
	if !ok {
		r.refuse()
	}
	r.next++
	d := read(r)
	d.At = at
	return d
}

func (r *reader) globalDecl() api.Decl {
	d := api.Decl{Kind: api.Global, Name: r.name()}
	r.take("=")
	if r.passes("-") {
		d.N = r.number("-")
	} else {
		d.N = r.number("")
	}
	r.take(";")
	return d
}

func (r *reader) arrayDecl() api.Decl {
	d := api.Decl{Kind: api.Array, Name: r.name()}
	r.take("[")
	d.N = r.number("")
	r.take("]")
	r.take(";")
	return d
}

func (r *reader) lockDecl() api.Decl {
	d := api.Decl{Kind: api.Lock, Name: r.name()}
	r.take(";")
	return d
}

func (r *reader) funcDecl() api.Decl {
	d := api.Decl{Kind: api.Func, Name: r.name()}
	d.Params = list(r, (*reader).name)
	d.Body = r.block()
	return d
}

func (r *reader) threadDecl() api.Decl {
	d := api.Decl{Kind: api.Thread, Name: r.name()}
	d.Body = r.block()
	return d
}
