package parse_test

import (
	"cmp"
	"fmt"
	"math"
	"reflect"
	"slices"
	"strings"
	"testing"

	"bobbin/api"
	"bobbin/lex"
	"bobbin/parse"
	"bobbin/tree"
)

// pieces are texts of one declaration each; all kinds of declarations, statements and expressions are among them.
var pieces = []string{
	"global x = 1;", "global x = -1;", "array a[3];", "lock l;",
	"func f() { }", "func f(p) { return p; }", "func f(p, q, r) { return p; }",
	"thread t { }", "thread t { var x = 1; x = y; }", "thread t { a[i] = 2; }",
	"thread t { if b { } }", "thread t { if b { x = 1; } else { print 2; } }",
	"thread t { while b { } print 1; }", "thread t { with l { with m { } } }",
	"thread t { call f(); }", "thread t { x = call f(1); }", "thread t { var x = call f(1, y, a[2]); }",
	"thread t { print - ! x; }", "thread t { print (true == (false)); }", "thread t { print a[b[1]] ; return 1; }",
	"thread t { print 1 || 2 && 3 < 4 + 5 * 6; }", "thread t { print 1 * 2 - 3 >= 4 && ! 5 || 6; }", "thread t { print a != 1 || 2 % 3 <= 4 / 5; }",
	"thread t { if a > b { } else { } }",
}

// placed is a program with nil for all lists that are empty, and with places that a rule makes of those that stood there.
func placed(l []api.Decl, place func(int) int) []api.Decl {
	var exprs func(l []api.Expr) []api.Expr
	exprs = func(l []api.Expr) []api.Expr {
		var out []api.Expr
		for _, e := range l {
			e.At, e.Args = place(e.At), exprs(e.Args)
			out = append(out, e)
		}
		return out
	}
	var stmts func(l []api.Stmt) []api.Stmt
	stmts = func(l []api.Stmt) []api.Stmt {
		var out []api.Stmt
		for _, s := range l {
			s.At, s.E, s.Body, s.Else = place(s.At), exprs(s.E), stmts(s.Body), stmts(s.Else)
			out = append(out, s)
		}
		return out
	}
	var out []api.Decl
	for _, d := range l {
		d.At, d.Params, d.Body = place(d.At), append([]string(nil), d.Params...), stmts(d.Body)
		out = append(out, d)
	}
	return out
}

// moved is a program that stands farther on.
func moved(l []api.Decl, by int) []api.Decl { return placed(l, func(at int) int { return at + by }) }

// equal says whether programs are the same, and stand at the same places.
func equal(a, b []api.Decl) bool { return reflect.DeepEqual(moved(a, 0), moved(b, 0)) }

// read is a program of a text that has to have one.
func read(t *testing.T, s string) []api.Decl {
	t.Helper()
	l, at, e := parse.Parse(s)
	if e != api.OK || at != 0 {
		t.Fatalf("%q: %d %v", s, at, e)
	}
	return l
}

// printed is the expression that a thread prints.
func printed(t *testing.T, s string) api.Expr {
	t.Helper()
	return read(t, "thread t { print "+s+"; }")[0].Body[0].E[0]
}

// refused asks for an error at a place, and for nothing beside it.
func refused(t *testing.T, s string, at int, e api.Errno) {
	t.Helper()
	if l, at2, e2 := parse.Parse(s); e2 != e || at2 != at || len(l) != 0 {
		if len(s) > 200 {
			s = s[:200] + ".."
		}
		t.Errorf("%q: %d declarations, %d, %v; asked are %d, %v", s, len(l), at2, e2, at, e)
	}
}

// made are programs and their texts.
func made(count int) (programs [][]api.Decl, texts []string) {
	m := &maker{seed: 3}
	for range count {
		l, s := m.program()
		if len(s) <= api.MaxText {
			programs, texts = append(programs, l), append(texts, s)
		}
	}
	return programs, texts
}

// samples are the pieces, what is made of them by one change each, and texts that have no program.
func samples() []string {
	out := slices.Clone(pieces)
	for i, s := range pieces {
		out = append(out, s[:len(s)-2], s[1+i%7:], strings.Replace(s, "x", "if", 1), strings.Replace(s, "1", "$", 1), strings.Replace(s, ";", ";;", 1))
	}
	return append(out, "", " \n", "#", "x", "thread t {", "print 9223372036854775808;", "array a[0];", "array a[1025];", "007", "1 < 2 < 3", "é")
}

// texts are some that have a program, and some that have none.
func texts() []string {
	_, out := made(60)
	return append(out, samples()...)
}

// tokensOf are the texts of a text's tokens.
func tokensOf(s string) []string {
	l, _, _ := lex.Tokens(s)
	var out []string
	for _, x := range l {
		out = append(out, x.Text)
	}
	return out
}

// P3.1: the chapter's examples.
func TestExamples(t *testing.T) {
	const s = "global x = -1; lock l; thread t { with l { x = x + 1 * 2; } }"
	want := []api.Decl{
		{Kind: api.Global, Name: "x", N: -1},
		{Kind: api.Lock, Name: "l", At: 15},
		{Kind: api.Thread, Name: "t", At: 23, Body: []api.Stmt{{Kind: api.With, Name: "l", At: 34, Body: []api.Stmt{{Kind: api.Set, Name: "x", At: 43, E: []api.Expr{
			{Kind: api.Add, At: 49, Args: []api.Expr{
				{Kind: api.Var, Name: "x", At: 47},
				{Kind: api.Mul, At: 53, Args: []api.Expr{{Kind: api.Int, N: 1, At: 51}, {Kind: api.Int, N: 2, At: 55}}},
			}},
		}}}}}},
	}
	if l := read(t, s); !equal(l, want) {
		t.Error(l)
	}
	less := api.Expr{Kind: api.Less, At: 19, Args: []api.Expr{{Kind: api.Var, Name: "b", At: 21}, {Kind: api.Var, Name: "a", At: 17}}}
	if e := printed(t, "a > b"); !reflect.DeepEqual(e, less) {
		t.Error(e)
	}
	refused(t, "thread t { print 1 < 2 < 3; }", 23, api.ErrSyntax)
	refused(t, "thread t { print 9223372036854775808; }", 17, api.ErrSyntax)
	refused(t, "thread t {", 10, api.ErrSyntax)
	refused(t, "array a[0];", 0, api.ErrTooLarge)
}

// P3.1: each kind of declaration.
func TestDecls(t *testing.T) {
	for s, want := range map[string]api.Decl{
		"global x = 0;":        {Kind: api.Global, Name: "x"},
		"global x = -0;":       {Kind: api.Global, Name: "x"},
		"global x = - 12;":     {Kind: api.Global, Name: "x", N: -12},
		" array a [ 7 ] ;":     {Kind: api.Array, Name: "a", N: 7, At: 1},
		"#\nlock _0;":          {Kind: api.Lock, Name: "_0", At: 2},
		"func f(){}":           {Kind: api.Func, Name: "f"},
		"func f(p){}":          {Kind: api.Func, Name: "f", Params: []string{"p"}},
		"func f ( p , q ) { }": {Kind: api.Func, Name: "f", Params: []string{"p", "q"}},
		"func f(f,f,f){}":      {Kind: api.Func, Name: "f", Params: []string{"f", "f", "f"}},
		"\n\nthread t{}":       {Kind: api.Thread, Name: "t", At: 2},
	} {
		if l := read(t, s); !equal(l, []api.Decl{want}) {
			t.Errorf("%q: %v", s, l)
		}
	}
	if l := read(t, " \n# nothing"); len(l) != 0 {
		t.Error(l)
	}
}

// P3.1: each kind of statement.
func TestStmts(t *testing.T) {
	one := func(at int) api.Expr { return api.Expr{Kind: api.Int, N: 1, At: at} }
	x := func(at int) api.Expr { return api.Expr{Kind: api.Var, Name: "x", At: at} }
	for s, want := range map[string]api.Stmt{
		"var y = 1;":               {Kind: api.Let, Name: "y", E: []api.Expr{one(8)}},
		"y = 1;":                   {Kind: api.Set, Name: "y", E: []api.Expr{one(4)}},
		"y[x] = 1;":                {Kind: api.Put, Name: "y", E: []api.Expr{x(2), one(7)}},
		"print x;":                 {Kind: api.Print, E: []api.Expr{x(6)}},
		"return x;":                {Kind: api.Return, E: []api.Expr{x(7)}},
		"with y {}":                {Kind: api.With, Name: "y"},
		"with y { print x; }":      {Kind: api.With, Name: "y", Body: []api.Stmt{{Kind: api.Print, E: []api.Expr{x(15)}, At: 9}}},
		"while x {}":               {Kind: api.While, E: []api.Expr{x(6)}},
		"while x { y = 1; }":       {Kind: api.While, E: []api.Expr{x(6)}, Body: []api.Stmt{{Kind: api.Set, Name: "y", E: []api.Expr{one(14)}, At: 10}}},
		"if x {}":                  {Kind: api.If, E: []api.Expr{x(3)}},
		"if x {} else {}":          {Kind: api.If, E: []api.Expr{x(3)}},
		"if x {} else { with y{}}": {Kind: api.If, E: []api.Expr{x(3)}, Else: []api.Stmt{{Kind: api.With, Name: "y", At: 15}}},
		"if x { with y{} }":        {Kind: api.If, E: []api.Expr{x(3)}, Body: []api.Stmt{{Kind: api.With, Name: "y", At: 7}}},
		"call y();":                {Kind: api.Call, Name: "y"},
		"call y(x,1);":             {Kind: api.Call, Name: "y", E: []api.Expr{x(7), one(9)}},
		"z = call y(1);":           {Kind: api.Call, Name: "y", To: "z", E: []api.Expr{one(11)}},
		"var z = call y(1);":       {Kind: api.Call, Name: "y", To: "z", New: true, E: []api.Expr{one(15)}},
	} {
		for _, head := range []string{"thread t {", "func f(p) {", "thread t { print 1;"} {
			l := read(t, head+s+"}")
			body := l[0].Body
			got := moved([]api.Decl{{Body: body[len(body)-1:]}}, -len(head))[0].Body
			if !reflect.DeepEqual(got, []api.Stmt{want}) {
				t.Errorf("%q: %v", s, got)
			}
		}
	}
}

// P3.1: each kind of expression, and where it stands.
func TestExprs(t *testing.T) {
	const head = len("thread t { print ")
	a, b := api.Expr{Kind: api.Var, Name: "a"}, api.Expr{Kind: api.Var, Name: "b"}
	at := func(e api.Expr, at int) api.Expr { e.At = at; return e }
	for s, want := range map[string]api.Expr{
		"0":                   {Kind: api.Int},
		"9223372036854775807": {Kind: api.Int, N: math.MaxInt64},
		"true":                {Kind: api.Bool, N: 1},
		"false":               {Kind: api.Bool},
		"a":                   a,
		"(a)":                 at(a, 1),
		"((( a)))":            at(a, 4),
		"a[b]":                {Kind: api.Index, Name: "a", Args: []api.Expr{at(b, 2)}},
		"a [(b)]":             {Kind: api.Index, Name: "a", Args: []api.Expr{at(b, 4)}},
		"-a":                  {Kind: api.Neg, Args: []api.Expr{at(a, 1)}},
		"-9223372036854775807": {Kind: api.Neg, Args: []api.Expr{
			{Kind: api.Int, N: math.MaxInt64, At: 1}}},
		"!(a)":    {Kind: api.Not, Args: []api.Expr{at(a, 2)}},
		"-!a":     {Kind: api.Neg, Args: []api.Expr{{Kind: api.Not, Args: []api.Expr{at(a, 2)}, At: 1}}},
		"a-b":     {Kind: api.Sub, Args: []api.Expr{a, at(b, 2)}, At: 1},
		"(a)-(b)": {Kind: api.Sub, Args: []api.Expr{at(a, 1), at(b, 5)}, At: 3},
		"(a-b)":   {Kind: api.Sub, Args: []api.Expr{at(a, 1), at(b, 3)}, At: 2},
		"a >= b":  {Kind: api.LessEq, Args: []api.Expr{at(b, 5), a}, At: 2},
	} {
		want := moved([]api.Decl{{Body: []api.Stmt{{E: []api.Expr{want}}}}}, head)[0].Body[0].E[0]
		if e := printed(t, s); !reflect.DeepEqual(e, want) {
			t.Errorf("%q: %v", s, e)
		}
	}
	for sign, kind := range map[string]uint8{"+": api.Add, "-": api.Sub, "*": api.Mul, "/": api.Div, "%": api.Mod, "<": api.Less, "<=": api.LessEq, "==": api.Equal, "!=": api.Unlike, "&&": api.And, "||": api.Or} {
		want := api.Expr{Kind: kind, At: head + 2, Args: []api.Expr{at(a, head), at(b, head+3+len(sign))}}
		if e := printed(t, "a "+sign+" b"); !reflect.DeepEqual(e, want) {
			t.Errorf("%s: %v", sign, e)
		}
	}
}

// P3.1, P3.2: made programs are read from their texts, each part at its place.
func TestMade(t *testing.T) {
	programs, texts := made(3000)
	if len(programs) < 2500 {
		t.Error("too few:", len(programs))
	}
	for i, s := range texts {
		l, at, e := parse.Parse(s)
		if e != api.OK || at != 0 || !equal(l, programs[i]) {
			t.Fatalf("%q: %v, not %v (%d, %v)", s, l, programs[i], at, e)
		}
	}
}

// wrong are texts that have a token less, one more, another one, or none from some place on.
func wrong(s string) []string {
	l := tokensOf(s)
	others := slices.Concat(words, signs, []string{"z", "5", "9223372036854775808"})
	join := func(parts ...[]string) string { return strings.Join(slices.Concat(parts...), " ") }
	var out []string
	for i := range len(l) + 1 {
		out = append(out, join(l[:i]), join(l[:i])+"\n # end\n", join(l[i:]))
		if i < len(l) {
			out = append(out, join(l[:i], l[i+1:]), join(l[:i+1], l[i:]))
		}
		for _, x := range others {
			out = append(out, join(l[:i], []string{x}, l[i:]))
			if i < len(l) {
				out = append(out, join(l[:i], []string{x}, l[i+1:]))
			}
		}
	}
	return out
}

// P3.1: the first token that may not stand where it stands is told, as the grammar has it.
func TestGrammar(t *testing.T) {
	rules, yes, no := rules(), 0, 0
	try := func(s string) {
		at, ok := judged(rules, s)
		l, at2, e := parse.Parse(s)
		if ok != (e == api.OK) || at != at2 || !ok && (e != api.ErrSyntax || len(l) != 0) {
			t.Fatalf("%q: %d %v, by the grammar %d %v", s, at2, e, at, ok)
		}
		if ok {
			yes++
		} else {
			no++
		}
	}
	for _, s := range pieces {
		for _, w := range wrong(s) {
			try(w)
		}
	}
	m := &maker{seed: 9}
	for range 400 {
		_, s := m.program()
		if l := tokensOf(s); len(l) > 0 && len(l) < 1000 {
			i, j := m.next(len(l)), m.next(len(l))
			l[i], l[j] = l[j], l[i]
			try(s)
			try(strings.Join(l, "\n"))
			try(strings.Join(slices.Delete(l, i, min(len(l), i+1+m.next(3))), "\t"))
		}
	}
	if yes < 1000 || no < 10000 {
		t.Error("too few:", yes, no)
	}
}

// P3.1: what is wrong first is told with its place, and nothing beside it.
func TestRefused(t *testing.T) {
	for s, at := range map[string]int{
		";": 0, "x": 0, "x = 1;": 0, "print 1;": 0, "}": 0, "lock l; }": 8, "lock l;; lock m;": 7, "true": 0, "Thread t {}": 0,
		"lock if;": 5, "lock lock;": 5, "global true = 1;": 7, "array var[1];": 6, "func call() {}": 5, "func f(with) {}": 7, "func f(p, if) {}": 10, "thread thread {}": 7,
		"thread t { var if = 1; }": 15, "thread t { else = 1; }": 11, "thread t { true = 1; }": 11, "thread t { global x = 1; }": 11, "thread t { with while {} }": 16, "thread t { call print(); }": 16, "thread t { print var; }": 17, "thread t { print x + else; }": 21, "thread t { x = y[lock]; }": 17,
		"global x;": 8, "global x = ;": 11, "global x = 1 + 1;": 13, "global x = --1;": 12, "global x = !1;": 11, "global x = (1);": 11, "global x = y;": 11, "global x = true;": 11, "global x == 1;": 9, "global 1 = 1;": 7,
		"array a[-1];": 8, "array a[];": 8, "array a[n];": 8, "array a(1);": 7, "array a[1][2];": 10, "array a[2]": 10, "lock l, m;": 6,
		"func f {}": 7, "func f(,) {}": 7, "func f(p,) {}": 9, "func f(p q) {}": 9, "func f((p)) {}": 7, "func f(1) {}": 7, "func f() ;": 9, "func f() {} ;": 12, "thread t() {}": 8, "thread {}": 7,
		"thread t { ; }": 11, "thread t { {} }": 11, "thread t { x; }": 12, "thread t { 1 = x; }": 11, "thread t { x == 1; }": 13, "thread t { (x) = 1; }": 11, "thread t { x = ; }": 15, "thread t { x[] = 1; }": 13, "thread t { x[1]; }": 15, "thread t { x[1] = call f(); }": 18, "thread t { var x[1] = 2; }": 16, "thread t { var x; }": 16, "thread t { x[1][2] = 3; }": 15,
		"thread t { if x print 1; }": 16, "thread t { if {} }": 14, "thread t { if x {} else print 1; }": 24, "thread t { if x {} else if y {} }": 24, "thread t { else {} }": 11, "thread t { if x {} else {} else {} }": 27, "thread t { if x {}; }": 18, "thread t { while {} }": 17, "thread t { while x {} else {} }": 22, "thread t { with l; }": 17, "thread t { with (l) {} }": 16, "thread t { with l[1] {} }": 17,
		"thread t { print; }": 16, "thread t { print 1, 2; }": 18, "thread t { return; }": 17, "thread t { call f; }": 17, "thread t { call f(); call }": 26, "thread t { call f(1,); }": 20, "thread t { call f(,1); }": 18, "thread t { call f(1 2); }": 20, "thread t { x = call f() + 1; }": 24, "thread t { x = 1 + call f(); }": 19, "thread t { x = (call f()); }": 16, "thread t { call call f(); }": 16, "thread t { print call f(); }": 17, "thread t { x = y = 1; }": 17,
		"thread t { print 1 < 2 < 3; }": 23, "thread t { print 1 == 2 != 3; }": 24, "thread t { print 1 <= 2 > 3; }": 24, "thread t { print a && 1 < 2 >= 3; }": 28, "thread t { print 1 < 2 + 3 == 4; }": 27, "thread t { print (1 < 2 < 3); }": 24, "thread t { print a[1 < 2 < 3]; }": 25, "thread t { print - 1 < 2 < 3 || a; }": 25, "thread t { print a || b && c < d * e < f; }": 37,
		"thread t { print + 1; }": 17, "thread t { print 1 +; }": 20, "thread t { print 1 ! 2; }": 19, "thread t { print (); }": 18, "thread t { print (1; }": 19, "thread t { print 1); }": 18, "thread t { print a[1; }": 20, "thread t { print 1[2]; }": 18, "thread t { print (a)[1]; }": 20, "thread t { print a[1][2]; }": 21, "thread t { print f(1); }": 18, "thread t { print - - ; }": 21, "thread t { print a b; }": 19, "thread t { print * 2; }": 17, "thread t { print 1 && || 2; }": 22,
		"thread t { # }": 14, "thread t {\n\n  ": 14, "lock l": 6, "lock": 4, "thread t { print 1; } }": 22, "thread t { print 1 ": 19, "thread t { } lock # l;": 22,
	} {
		refused(t, s, at, api.ErrSyntax)
	}
}

// P3.1: what lex refuses is told as lex tells it, also ahead of other faults.
func TestLexFirst(t *testing.T) {
	for _, s := range []string{"$", "lock l; é", "thread t { print 007; }", "thread t { print 1x; }", "; ; $", "1 < 2 < 3 a$", "array a[0]; &", "global x = 9223372036854775809;", "global x = -9223372036854775809;", "lock " + strings.Repeat("n", api.MaxName+1) + ";", "thread t {\r\n}", "if if .", strings.Repeat(";", api.MaxText+1)} {
		_, at, e := lex.Tokens(s)
		if e == api.OK {
			t.Fatalf("%q", s)
		}
		refused(t, s, at, e)
	}
	read(t, "lock "+strings.Repeat("n", api.MaxName)+";")
}

// P3.1: the greatest number, the least one, and one more, wherever a number stands.
func TestNumbers(t *testing.T) {
	const most, wide = "9223372036854775807", "9223372036854775808"
	for _, s := range []string{"global x = ", "array a[", "thread t { print ", "thread t { print -", "thread t { x = -", "thread t { x = - - ", "thread t { var x = -(", "thread t { a[", "thread t { call f(", "thread t { if -", "thread t { print 1 -", "global y = 1; thread t { y = 1 * "} {
		refused(t, s+wide, len(s), api.ErrSyntax)
		refused(t, s+most, len(s+most), api.ErrSyntax)
	}
	for s, n := range map[string]int64{"global x = " + most + ";": math.MaxInt64, "global x = -" + most + ";": -math.MaxInt64, "global x = -" + wide + ";": math.MinInt64, "global x=-\n" + wide + ";": math.MinInt64, "global x = -1;": -1} {
		if l := read(t, s); l[0].N != n {
			t.Error(s, l[0].N)
		}
	}
	refused(t, "global x = - -"+wide+";", 13, api.ErrSyntax)
	refused(t, "global x = -"+wide, len("global x = -"+wide), api.ErrSyntax)
	refused(t, "array a["+most+"];", 0, api.ErrTooLarge)
}

// P3.1: a text of MaxText bytes, and of one more.
func TestMaxText(t *testing.T) {
	for _, s := range []string{"lock l;", "thread t { print 1; }", "thread t {"} {
		l, at, e := parse.Parse(s)
		if e != api.OK {
			at = api.MaxText
		}
		for _, full := range []string{s + strings.Repeat(" ", api.MaxText-len(s)), s + strings.Repeat("#", api.MaxText-len(s))} {
			if l2, at2, e2 := parse.Parse(full); e2 != e || at2 != at || !equal(l2, l) {
				t.Error(s, l2, at2, e2)
			}
			refused(t, full+" ", 0, api.ErrTooLarge)
			refused(t, " "+full, 0, api.ErrTooLarge)
		}
	}
}

// nests are ways to lie deeper in one another: a text is what is ahead as often as asked, what is within, what is behind as often.
var nests = []struct {
	head, ahead, within, behind, tail string
	depth                             int // of head, within and tail
}{
	{"thread t { ", "if b { ", "with l { }", " }", " }", 1},
	{"thread t { ", "if b { } else { ", "with l { }", " }", " }", 1},
	{"func f(p) { ", "while b { ", "print 1;", " }", " return p; }", 2},
	{"thread t { ", "with l { ", "", " }", " }", 0},
	{"thread t { print ", "- ", "1", "", "; }", 2},
	{"thread t { print ", "! ", "a[1]", "", "; }", 3},
	{"thread t { print ", "- ! ( ", "1", " )", "; }", 2},
	{"thread t { print ", "1 + ( ", "1", " )", "; }", 2},
	{"thread t { print ", "( ", "1", " ) * 2", "; }", 2},
	{"thread t { print ", "1 < ( ", "1", " )", "; }", 2},
	{"thread t { print ", "( ", "1", " ) >= 2", "; }", 2},
	{"thread t { print ", "a[ ", "1", " ]", "; }", 2},
	{"thread t { print ", "", "1", " + 1", "; }", 2},
	{"thread t { print ", "", "1", " % 1", "; }", 2},
	{"thread t { print ", "", "1", " && 1", "; }", 2},
	{"thread t { print ", "", "1", " || 1", "; }", 2},
	{"thread t { a[1] = ", "- ", "1", "", "; }", 2},
	{"thread t { a[ ", "- ", "1", "", "] = 1; }", 2},
	{"thread t { call f(1, ", "- ", "1", "", "); }", 2},
	{"thread t { while ", "! ", "b", "", "{ } }", 2},
}

// P3.1: MaxNest deep, and one deeper.
func TestMaxNest(t *testing.T) {
	for _, x := range nests {
		text := func(n int) string {
			return x.head + strings.Repeat(x.ahead, n) + x.within + strings.Repeat(x.behind, n) + x.tail
		}
		step := 1
		if strings.HasPrefix(x.ahead, "- !") {
			step = 2
		}
		for depth := api.MaxNest - 3; depth <= api.MaxNest+3; depth++ {
			if (depth-x.depth)%step != 0 {
				continue
			}
			s := text((depth - x.depth) / step)
			if depth > api.MaxNest {
				refused(t, s, 0, api.ErrTooLarge)
				refused(t, s+" ;", len(s)+1, api.ErrSyntax)
			} else if l := read(t, s); tree.Depth(l) != depth {
				t.Error(s, tree.Depth(l))
			}
		}
	}
}

// P3.1: brackets leave nothing, as many as they are; and what nests as often as a text may have it is refused.
func TestDeepTexts(t *testing.T) {
	const count = (api.MaxText - 30) / 2
	e := printed(t, strings.Repeat("(", count)+"7"+strings.Repeat(")", count))
	if want := (api.Expr{Kind: api.Int, N: 7, At: 17 + count}); !reflect.DeepEqual(e, want) {
		t.Error(e)
	}
	for _, x := range nests {
		n := (api.MaxText - len(x.head+x.within+x.tail)) / len(x.ahead+x.behind)
		refused(t, x.head+strings.Repeat(x.ahead, n)+x.within+strings.Repeat(x.behind, n)+x.tail, 0, api.ErrTooLarge)
		open := x.head + strings.Repeat(x.ahead, (api.MaxText-len(x.head))/max(1, len(x.ahead)))
		if x.ahead != "" {
			refused(t, open, len(open), api.ErrSyntax)
		}
	}
	refused(t, "thread t { print "+strings.Repeat("(", api.MaxText-17), api.MaxText, api.ErrSyntax)
	refused(t, strings.Repeat("}", api.MaxText), 0, api.ErrSyntax)
}

// P3.1: MaxDecls declarations, MaxParams parameters and arguments, MaxSize cells, and one more.
func TestLimits(t *testing.T) {
	many := func(n int, piece, between string) string {
		return strings.TrimSuffix(strings.Repeat(piece+between, n), between)
	}
	for _, x := range []struct {
		most int
		text func(n int) string
	}{
		{api.MaxDecls, func(n int) string { return many(n, "lock l;", "") }},
		{api.MaxDecls, func(n int) string { return many(n-1, "global x = 1;", "\n") + "thread t { print 1; }" }},
		{api.MaxParams, func(n int) string { return "func f(" + many(n, "p", ", ") + ") { return p; }" }},
		{api.MaxParams, func(n int) string { return "thread t { call f(" + many(n, "1", ", ") + "); }" }},
		{api.MaxParams, func(n int) string { return "thread t { if b { x = call f(" + many(n, "a[1]", ",") + "); } }" }},
		{api.MaxParams, func(n int) string { return "thread t { var x = call f(" + many(n, "(1 + 2)", ",") + "); }" }},
		{api.MaxSize, func(n int) string { return fmt.Sprint("array a[", n, "];") }},
	} {
		for n := x.most - 2; n <= x.most; n++ {
			if l := read(t, x.text(n)); !tree.May(l) {
				t.Error(l)
			}
		}
		for n := x.most + 1; n < x.most+4; n++ {
			refused(t, x.text(n), 0, api.ErrTooLarge)
			refused(t, x.text(n)+"\n}", len(x.text(n))+1, api.ErrSyntax)
		}
	}
	if l := read(t, many(api.MaxDecls, "lock l;", "")); len(l) != api.MaxDecls {
		t.Error(len(l))
	}
	if l := read(t, "thread t { "+many(5000, "x = 1;", "")+" }"); len(l[0].Body) != 5000 {
		t.Error(len(l[0].Body))
	}
	refused(t, "array a[0];", 0, api.ErrTooLarge)
	read(t, "array a[1];")
}

// memory is where a list's memory, its spare room too, begins and ends.
type memory struct{ from, to uintptr }

// lists are the memories of all lists in a value.
func lists(v reflect.Value) []memory {
	var out []memory
	switch v.Kind() {
	case reflect.Slice:
		if size := v.Type().Elem().Size() * uintptr(v.Cap()); size > 0 {
			out = append(out, memory{v.Pointer(), v.Pointer() + size})
		}
		for i := range v.Len() {
			out = append(out, lists(v.Index(i))...)
		}
	case reflect.Struct:
		for i := range v.NumField() {
			out = append(out, lists(v.Field(i))...)
		}
	}
	return out
}

// R2, R3: answers are equal, and no two lists, of one answer or of two, share memory.
func TestApart(t *testing.T) {
	for _, s := range texts() {
		a, at, e := parse.Parse(s)
		b, at2, e2 := parse.Parse(s)
		if e2 != e || at2 != at || !reflect.DeepEqual(a, b) {
			t.Fatalf("%q: %v %v", s, a, b)
		}
		all := append(lists(reflect.ValueOf(a)), lists(reflect.ValueOf(b))...)
		slices.SortFunc(all, func(x, y memory) int { return cmp.Compare(x.from, y.from) })
		for i := 1; i < len(all); i++ {
			if all[i].from < all[i-1].to {
				t.Fatalf("%q: two lists share memory", s)
			}
		}
	}
}

// P3.2: what is told is a program, and it stands where tokens stand: declarations and statements rising.
func TestMayBe(t *testing.T) {
	for _, s := range texts() {
		l, _, e := parse.Parse(s)
		if !tree.May(l) || e != api.OK && len(l) > 0 {
			t.Fatalf("%q: %v %v", s, l, e)
		}
		begins := map[int]string{}
		tokens, _, _ := lex.Tokens(s)
		for _, x := range tokens {
			begins[x.At] = x.Text
		}
		last := -1
		rises := func(at int) {
			if at <= last || begins[at] == "" {
				t.Fatalf("%q: %d behind %d", s, at, last)
			}
			last = at
		}
		var stmts func(l []api.Stmt)
		stmts = func(l []api.Stmt) {
			for _, x := range l {
				rises(x.At)
				stmts(x.Body)
				stmts(x.Else)
			}
		}
		for _, d := range l {
			rises(d.At)
			stmts(d.Body)
		}
		placed(l, func(at int) int {
			if begins[at] == "" {
				t.Fatalf("%q: no token at %d", s, at)
			}
			return at
		})
	}
}

// P3.3: two texts with a line's end between.
func TestTwoTexts(t *testing.T) {
	_, all := made(25)
	all = append(append(all, samples()...), strings.Repeat("lock l;", api.MaxDecls), strings.Repeat("lock l;", api.MaxDecls-1))
	for _, a := range all {
		la, ata, ea := parse.Parse(a)
		if ea == api.ErrTooLarge {
			continue
		}
		for _, b := range all {
			lb, at, e := parse.Parse(b)
			want := append(moved(la, 0), moved(lb, len(a)+1)...)
			if _, _, lexed := lex.Tokens(a + "\n" + b); len(a+b) >= api.MaxText || lexed != api.OK || e == api.ErrTooLarge {
				continue
			}
			switch {
			case ea != api.OK && ata < len(a):
				want, at, e = nil, ata, ea
			case ea != api.OK: // what is missing may stand in b
				continue
			case e != api.OK:
				want, at = nil, at+len(a)+1
			case !tree.May(want):
				want, at, e = nil, 0, api.ErrTooLarge
			}
			if l, at2, e2 := parse.Parse(a + "\n" + b); e2 != e || at2 != at || !equal(l, want) {
				t.Fatalf("%q, %q: %v %d %v, not %v %d %v", a, b, l, at2, e2, want, at, e)
			}
		}
	}
}

// operators are all that stand between two expressions, with how strongly they bind.
var operators = map[string]int{"||": 1, "&&": 2, "<": 3, "<=": 3, "==": 3, "!=": 3, ">": 3, ">=": 3, "+": 4, "-": 4, "*": 5, "/": 5, "%": 5}

// P3.4: an expression in ( ) is that expression; operators are grouped as they bind, of one strength from the left.
func TestGroups(t *testing.T) {
	same := func(a, b string) {
		t.Helper()
		if x, y := printed(t, a), printed(t, b); !tree.SameExpr(x, y) {
			t.Errorf("%s: %v; %s: %v", a, x, b, y)
		}
	}
	for p, n := range operators {
		for q, m := range operators {
			s, left, right := "a "+p+" b "+q+" c", "(a "+p+" b) "+q+" c", "a "+p+" (b "+q+" c)"
			if tree.SameExpr(printed(t, left), printed(t, right)) {
				t.Error("brackets do nothing:", left)
			}
			switch {
			case n == 3 && m == 3:
				refused(t, "thread t { print "+s+"; }", 17+len("a "+p+" b "), api.ErrSyntax)
			case n >= m:
				same(s, left)
			default:
				same(s, right)
			}
			same("("+left+")", "((a)"+p+"((b)))"+q+"(c)")
		}
		for _, u := range []string{"-", "!"} {
			same(u+"a "+p+" b", "("+u+"a) "+p+" b")
			same("a "+p+" "+u+"b", "a "+p+" ("+u+"b)")
			same(u+"a[b "+p+" c]", u+"(a[(b "+p+" c)])")
			if tree.SameExpr(printed(t, u+"a "+p+" b"), printed(t, u+"(a "+p+" b)")) {
				t.Error(u, p)
			}
		}
	}
	same("a - b - c - d", "((a - b) - c) - d")
	same("a || b && c == d + e * - f", "a || (b && (c == (d + (e * (- f)))))")
	same("- a * b + c < d && e || f", "(((((- a) * b) + c) < d) && e) || f")
	same("a < b && c < d || e > f && g != h", "((a < b) && (c < d)) || ((f < e) && (g != h))")
	same("(a < b) < (c < d)", "((a < b)) < ((c < d))")
	same("a + b % c - d / e * f", "(a + (b % c)) - ((d / e) * f)")
}

// P3.4: made expressions are the same in brackets.
func TestInBrackets(t *testing.T) {
	m := &maker{seed: 5}
	for range 2000 {
		e := m.expr(6)
		m.text.Reset()
		m.last = ""
		m.writeExpr(&e, 0)
		s := m.text.String()
		if x, y := printed(t, s), printed(t, "("+s+"\n)"); !tree.SameExpr(x, e) || !tree.SameExpr(y, e) {
			t.Fatalf("%q: %v, not %v", s, x, e)
		}
	}
}

// P3.5: blanks, line's ends and remarks ahead.
func TestIdleAhead(t *testing.T) {
	for _, idle := range []string{" ", "\t", "\n", "\n \t\n", "# if { $\n", strings.Repeat("  \n", 500)} {
		for _, s := range texts() {
			l, at, e := parse.Parse(s)
			if len(idle+s) > api.MaxText {
				continue
			}
			if e != api.OK && e != api.ErrTooLarge {
				at += len(idle)
			}
			if l2, at2, e2 := parse.Parse(idle + s); e2 != e || at2 != at || !equal(l2, moved(l, len(idle))) {
				t.Fatalf("%q ahead of %q: %v %d %v", idle, s, l2, at2, e2)
			}
		}
	}
}

// P3.6: a text's tokens with a blank behind each.
func TestByTokens(t *testing.T) {
	for _, s := range texts() {
		tokens, _, e := lex.Tokens(s)
		if e != api.OK {
			continue
		}
		var b strings.Builder
		place := map[int]int{0: 0, len(s): 0}
		for _, x := range tokens {
			place[x.At] = b.Len()
			b.WriteString(x.Text + " ")
		}
		if b.Len() > api.MaxText {
			continue
		}
		l, at, e := parse.Parse(s)
		if e == api.ErrSyntax && at == len(s) {
			at = b.Len()
		} else {
			at = place[at]
		}
		want := placed(l, func(at int) int { return place[at] })
		if l2, at2, e2 := parse.Parse(b.String()); e2 != e || at2 != at || !equal(l2, want) {
			t.Fatalf("%q: %v %d %v", b.String(), l2, at2, e2)
		}
	}
}
