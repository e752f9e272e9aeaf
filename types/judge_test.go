package types_test

import (
	"slices"

	"bobbin/api"
	"bobbin/tree"
)

// ruling is something that is wrong.
type ruling struct {
	at  int
	err api.Errno
}

// judge says what the chapter says in other words: it gathers all that is wrong, in the chapter's order,
// and hands on lists of what is known instead of keeping them.
type judge struct {
	l    []api.Decl
	all  []ruling
	used []string
}

// judged is what is wrong first.
func judged(l []api.Decl) (int, api.Errno) {
	if !tree.May(l) {
		return 0, api.ErrForm
	}
	j := &judge{l: l}
	threads := 0
	for i, d := range l {
		first, _ := j.decl(d.Name)
		j.say(first != i, d.At, api.ErrName)
		if d.Kind == api.Thread {
			threads++
		}
	}
	if threads > 16 {
		return 0, api.ErrTooLarge
	}
	for _, d := range l {
		j.body(d)
	}
	j.loops()
	if len(j.all) == 0 {
		return 0, api.OK
	}
	return j.all[0].at, j.all[0].err
}

func (j *judge) say(wrong bool, at int, err api.Errno) {
	if wrong {
		j.all = append(j.all, ruling{at, err})
	}
}

// decl is the first declaration of a name and its Kind, or -1 and 0.
func (j *judge) decl(name string) (int, uint8) {
	i := slices.IndexFunc(j.l, func(d api.Decl) bool { return d.Name == name })
	if i < 0 {
		return i, 0
	}
	return i, j.l[i].Kind
}

func (j *judge) body(d api.Decl) {
	var known []local
	j.used = nil
	for _, p := range d.Params {
		known = j.add(p, false, d.At, known)
	}
	body, last := d.Body, []api.Expr(nil)
	if n := len(body) - 1; d.Kind == api.Func && n >= 0 && body[n].Kind == api.Return {
		body, last = body[:n], body[n].E
	}
	for _, s := range body {
		known = j.stmt(s, known)
	}
	j.fit(last, 'n', known)
}

func (j *judge) add(name string, truth bool, at int, known []local) []local {
	i, _ := j.decl(name)
	j.say(i >= 0 || slices.Contains(j.used, name), at, api.ErrName)
	j.used = append(j.used, name)
	return append(slices.Clip(known), local{name, truth})
}

func (j *judge) inner(l []api.Stmt, known []local) {
	for _, s := range l {
		known = j.stmt(s, known)
	}
}

// typeOf is the type of a name, 0 if it is not known, '?' if it is none that has a value.
func (j *judge) typeOf(name string, known []local) byte {
	if i := slices.IndexFunc(known, func(x local) bool { return x.name == name }); i >= 0 {
		return "nt"[map[bool]int{true: 1}[known[i].truth]]
	}
	switch _, kind := j.decl(name); kind {
	case 0:
		return 0
	case api.Global:
		return 'n'
	}
	return '?'
}

// is asks whether a name is that of a declaration of a Kind.
func (j *judge) is(name string, kind uint8, at int, known []local) {
	_, found := j.decl(name)
	j.say(j.typeOf(name, known) == 0, at, api.ErrName)
	j.say(found != kind, at, api.ErrType)
}

func (j *judge) fit(l []api.Expr, want byte, known []local) {
	for _, e := range l {
		j.say(j.expr(e, known) != want, e.At, api.ErrType)
	}
}

func (j *judge) expr(e api.Expr, known []local) byte {
	switch {
	case e.Kind == api.Bool:
		return 't'
	case e.Kind == api.Var:
		return j.value(e.Name, e.At, known)
	case e.Kind == api.Index:
		j.is(e.Name, api.Array, e.At, known)
	case e.Kind == api.Not || e.Kind >= api.And:
		j.fit(e.Args, 't', known)
		return 't'
	}
	j.fit(e.Args, 'n', known)
	if e.Kind >= api.Less {
		return 't'
	}
	return 'n'
}

func (j *judge) value(name string, at int, known []local) byte {
	got := j.typeOf(name, known)
	j.say(got == 0, at, api.ErrName)
	j.say(got == '?', at, api.ErrType)
	return got
}

func (j *judge) stmt(s api.Stmt, known []local) []local {
	switch s.Kind {
	case api.Let:
		truth := j.expr(s.E[0], known) == 't'
		return j.add(s.Name, truth, s.At, known)
	case api.Set:
		j.fit(s.E, j.value(s.Name, s.At, known), known)
	case api.Put:
		j.is(s.Name, api.Array, s.At, known)
		j.fit(s.E, 'n', known)
	case api.If, api.While:
		j.fit(s.E, 't', known)
		j.inner(s.Body, known)
		j.inner(s.Else, known)
	case api.With:
		j.is(s.Name, api.Lock, s.At, known)
		j.inner(s.Body, known)
	case api.Print:
		j.fit(s.E, 'n', known)
	case api.Call:
		return j.call(s, known)
	case api.Return:
		j.say(true, s.At, api.ErrType)
	}
	return known
}

func (j *judge) call(s api.Stmt, known []local) []local {
	j.is(s.Name, api.Func, s.At, known)
	if i, _ := j.decl(s.Name); i >= 0 {
		j.say(len(j.l[i].Params) != len(s.E), s.At, api.ErrType)
	}
	j.fit(s.E, 'n', known)
	if s.New {
		return j.add(s.To, false, s.At, known)
	}
	if s.To != "" {
		j.say(j.typeOf(s.To, known) == 0, s.At, api.ErrName)
		j.say(!slices.Contains(known, local{name: s.To}), s.At, api.ErrType)
	}
	return known
}

// loops asks of each two, and each one between them, who calls whom.
func (j *judge) loops() {
	calls := make([][]bool, len(j.l))
	for i := range j.l {
		calls[i] = make([]bool, len(j.l))
		for _, s := range partsOf(j.l[i : i+1]).stmts {
			if to, kind := j.decl(s.Name); s.Kind == api.Call && kind == api.Func {
				calls[i][to] = true
			}
		}
	}
	for between := range calls {
		for from := range calls {
			for to := range calls {
				calls[from][to] = calls[from][to] || calls[from][between] && calls[between][to]
			}
		}
	}
	for i, d := range j.l {
		j.say(calls[i][i], d.At, api.ErrLoop)
	}
}
