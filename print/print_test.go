package print_test

import (
	"math"
	"reflect"
	"slices"
	"strconv"
	"strings"
	"testing"
	"unsafe"

	"bobbin/api"
	"bobbin/lex"
	"bobbin/parse"
	"bobbin/print"
	"bobbin/tree"
)

// shown is a program's text, which there has to be; Lines have to tell the same.
func shown(t *testing.T, l []api.Decl) string {
	t.Helper()
	s, e := print.Show(l)
	lines, e2 := print.Lines(l)
	if e != api.OK || e2 != api.OK || len(lines) != len(l) {
		t.Fatalf("%v: Show %v, Lines %v with %d lines", l, e, e2, len(lines))
	}
	together := ""
	for _, x := range lines {
		if strings.Contains(x, "\n") {
			t.Fatalf("a line's end within %q", x)
		}
		together += x + "\n"
	}
	if s != together {
		t.Fatalf("Show %q, Lines %q", s, lines)
	}
	return s
}

// told is an expression's text, which there has to be.
func told(t *testing.T, e api.Expr) string {
	t.Helper()
	s, err := print.Expr(e)
	if err != api.OK {
		t.Fatalf("%v: %v", e, err)
	}
	return s
}

// refused asks for an error of a program, and for nothing beside it.
func refused(t *testing.T, what string, l []api.Decl, err api.Errno) {
	t.Helper()
	if s, e := print.Show(l); s != "" || e != err {
		t.Errorf("%s: Show tells %.60q, %v, not %v", what, s, e, err)
	}
	if lines, e := print.Lines(l); len(lines) != 0 || e != err {
		t.Errorf("%s: Lines tells %d lines, %v, not %v", what, len(lines), e, err)
	}
}

// readExpr reads an expression's text.
func readExpr(s string) (api.Expr, bool) {
	l, _, err := parse.Parse("thread t { print " + s + "; }")
	if err != api.OK || len(l) != 1 || len(l[0].Body) != 1 {
		return api.Expr{}, false
	}
	return l[0].Body[0].E[0], true
}

// P4.1: the chapter's examples.
func TestExamples(t *testing.T) {
	a, b, c, x := named("a"), named("b"), named("c"), named("x")
	for s, e := range map[string]api.Expr{
		"a - (b - c)":           binary(api.Sub, a, binary(api.Sub, b, c)),
		"(1 + 2) * -x":          binary(api.Mul, binary(api.Add, number(1), number(2)), unary(api.Neg, x)),
		"(a < b) < c":           binary(api.Less, binary(api.Less, a, b), c),
		"(p || q) && !(a == b)": binary(api.And, binary(api.Or, named("p"), named("q")), unary(api.Not, binary(api.Equal, a, b))),
	} {
		if got := told(t, e); got != s {
			t.Errorf("%q, not %q", got, s)
		}
	}
	while := api.Stmt{Kind: api.While, E: list(truth(1))}
	call := api.Stmt{Kind: api.Call, Name: "f", To: "v", New: true, E: list(number(1), x)}
	if s := shown(t, threadOf(while, call)); s != "thread t { while true { } var v = call f(1, x); }\n" {
		t.Errorf("%q", s)
	}
}

// P4.1: each Kind of expressions.
func TestExprs(t *testing.T) {
	for s, e := range map[string]api.Expr{
		"0": number(0), "42": number(42), "9223372036854775807": number(math.MaxInt64),
		"true": truth(1), "false": truth(0), "_x9": named("_x9"), longName: named(longName),
		"a[0]": index("a", number(0)), "a[b[c]]": index("a", index("b", named("c"))),
		"-1": unary(api.Neg, number(1)), "!true": unary(api.Not, truth(1)), "-a[1]": unary(api.Neg, index("a", number(1))),
		"--x": unary(api.Neg, unary(api.Neg, named("x"))), "!-!x": unary(api.Not, unary(api.Neg, unary(api.Not, named("x")))),
		"1 - -2": binary(api.Sub, number(1), unary(api.Neg, number(2))),
	} {
		if got := told(t, e); got != s {
			t.Errorf("%q, not %q", got, s)
		}
	}
}

// kindSigns are the signs of the Kinds from Neg on.
var kindSigns = strings.Fields("- ! + - * / % < <= == != && ||")

// strengths are the Kinds of one strength each, the weakest first.
var strengths = [][]uint8{
	{api.Or}, {api.And}, {api.Less, api.LessEq, api.Equal, api.Unlike}, {api.Add, api.Sub}, {api.Mul, api.Div, api.Mod}, {api.Neg, api.Not},
}

// brackets say, for each strength of an Arg, whether it stands in ( ) within one of each strength.
var brackets = []struct{ first, second string }{
	{"......", "(....."},
	{"(.....", "((...."},
	{"(((...", "(((..."},
	{"(((...", "((((.."},
	{"((((..", "(((((."},
	{"(((((.", ""},
}

// P4.1: each Kind within each other Kind, as first and as second Arg, with ( ) and without.
func TestBrackets(t *testing.T) {
	x, y, z := named("x"), named("y"), named("z")
	apply := func(kind uint8, a, b api.Expr) api.Expr {
		if kind < api.Add {
			return unary(kind, a)
		}
		return binary(kind, a, b)
	}
	text := func(kind uint8, a, b string) string {
		sign := kindSigns[kind-api.Neg]
		if kind < api.Add {
			return sign + a
		}
		return a + " " + sign + " " + b
	}
	check := func(e api.Expr, s string) {
		t.Helper()
		if got := told(t, e); got != s {
			t.Errorf("%q, not %q", got, s)
		}
	}
	for i, level := range strengths {
		for j, others := range strengths {
			for _, outer := range level {
				for _, inner := range others {
					e, s := apply(inner, x, y), text(inner, "x", "y")
					in := func(sign byte) string {
						if sign == '(' {
							return "(" + s + ")"
						}
						return s
					}
					check(apply(outer, e, z), text(outer, in(brackets[i].first[j]), "z"))
					if i < len(strengths)-1 {
						check(apply(outer, z, e), text(outer, "z", in(brackets[i].second[j])))
						check(apply(outer, e, e), text(outer, in(brackets[i].first[j]), in(brackets[i].second[j])))
					}
					check(index("a", apply(outer, e, z)), "a["+text(outer, in(brackets[i].first[j]), "z")+"]")
				}
			}
		}
	}
	for _, e := range append(leaves(), index("a", binary(api.Or, x, y))) {
		s := told(t, e)
		check(index("a", e), "a["+s+"]")
		for kind := api.Neg; kind <= api.Or; kind++ {
			check(apply(kind, e, e), text(kind, s, s))
		}
	}
}

// P4.1: each kind of statement.
func TestStmts(t *testing.T) {
	sum := binary(api.Add, binary(api.Or, named("x"), number(1)), number(2))
	within := body(printOf(number(1)), api.Stmt{Kind: api.With, Name: "l"})
	for s, want := range map[string]api.Stmt{
		"var x = 1;":                               {Kind: api.Let, Name: "x", E: list(number(1))},
		"var x = (x || 1) + 2;":                    {Kind: api.Let, Name: "x", E: list(sum)},
		"x = -1;":                                  {Kind: api.Set, Name: "x", E: list(unary(api.Neg, number(1)))},
		"x = (x || 1) + 2;":                        {Kind: api.Set, Name: "x", E: list(sum)},
		"a[1] = 2;":                                {Kind: api.Put, Name: "a", E: list(number(1), number(2))},
		"a[(x || 1) + 2] = (x || 1) + 2;":          {Kind: api.Put, Name: "a", E: list(sum, sum)},
		"if true { }":                              {Kind: api.If, E: list(truth(1))},
		"if (x || 1) + 2 { }":                      {Kind: api.If, E: list(sum)},
		"if b { print 1; with l { } }":             {Kind: api.If, E: list(named("b")), Body: within},
		"if b { } else { print 1; with l { } }":    {Kind: api.If, E: list(named("b")), Else: within},
		"if b { print 1; } else { with l { } }":    {Kind: api.If, E: list(named("b")), Body: within[:1], Else: within[1:]},
		"while x < 1 { }":                          {Kind: api.While, E: list(binary(api.Less, named("x"), number(1)))},
		"while (x || 1) + 2 { }":                   {Kind: api.While, E: list(sum)},
		"while !b { print 1; with l { } }":         {Kind: api.While, E: list(unary(api.Not, named("b"))), Body: within},
		"with l { }":                               {Kind: api.With, Name: "l"},
		"with l { print 1; with l { } }":           {Kind: api.With, Name: "l", Body: within},
		"print x;":                                 printOf(named("x")),
		"print (x || 1) + 2;":                      printOf(sum),
		"return a[x];":                             {Kind: api.Return, E: list(index("a", named("x")))},
		"return (x || 1) + 2;":                     {Kind: api.Return, E: list(sum)},
		"call f();":                                {Kind: api.Call, Name: "f"},
		"call f((x || 1) + 2);":                    {Kind: api.Call, Name: "f", E: list(sum)},
		"y = call f();":                            {Kind: api.Call, Name: "f", To: "y"},
		"y = call f(1, x || y, -2);":               {Kind: api.Call, Name: "f", To: "y", E: list(number(1), binary(api.Or, named("x"), named("y")), unary(api.Neg, number(2)))},
		"var y = call f();":                        {Kind: api.Call, Name: "f", To: "y", New: true},
		"var f = call f((x || 1) + 2, a[x || y]);": {Kind: api.Call, Name: "f", To: "f", New: true, E: list(sum, index("a", binary(api.Or, named("x"), named("y"))))},
	} {
		if got := shown(t, threadOf(want)); got != "thread t { "+s+" }\n" {
			t.Errorf("%q, not %q in a thread", got, s)
		}
		two := []api.Decl{{Kind: api.Func, Name: "f", Body: body(want, want)}}
		if got := shown(t, two); got != "func f() { "+s+" "+s+" }\n" {
			t.Errorf("%q, not two %q in a function", got, s)
		}
		for i, x := range []string{"if b { S }", "if b { } else { S }", "if b { S } else { print z; }", "if b { print z; } else { S }", "while b { S }", "with x { S }"} {
			if got := shown(t, threadOf(stmts(named("b"), body(want))[4+i])); got != "thread t { "+strings.Replace(x, "S", s, 1)+" }\n" {
				t.Errorf("%q, not %q in %q", got, s, x)
			}
		}
	}
}

// P4.1: each kind of declaration, and several of them.
func TestDecls(t *testing.T) {
	var all []api.Decl
	text := ""
	for _, x := range []struct {
		s string
		d api.Decl
	}{
		{"global x = 0;", api.Decl{Kind: api.Global, Name: "x"}},
		{"global x = 1;", api.Decl{Kind: api.Global, Name: "x", N: 1}},
		{"global x = -1;", api.Decl{Kind: api.Global, Name: "x", N: -1}},
		{"global x = 9223372036854775807;", api.Decl{Kind: api.Global, Name: "x", N: math.MaxInt64}},
		{"global x = -9223372036854775808;", api.Decl{Kind: api.Global, Name: "x", N: math.MinInt64}},
		{"array a[1];", api.Decl{Kind: api.Array, Name: "a", N: 1}},
		{"array " + longName + "[1024];", api.Decl{Kind: api.Array, Name: longName, N: api.MaxSize}},
		{"lock l;", api.Decl{Kind: api.Lock, Name: "l"}},
		{"func f() { }", api.Decl{Kind: api.Func, Name: "f"}},
		{"func f(p) { return p; }", api.Decl{Kind: api.Func, Name: "f", Params: []string{"p"}, Body: body(api.Stmt{Kind: api.Return, E: list(named("p"))})}},
		{"func f(p, q, p) { }", api.Decl{Kind: api.Func, Name: "f", Params: []string{"p", "q", "p"}}},
		{"thread t { }", threadOf()[0]},
		{"thread t { print 1; print 2; }", threadOf(printOf(number(1)), printOf(number(2)))[0]},
	} {
		if got := shown(t, []api.Decl{x.d}); got != x.s+"\n" {
			t.Errorf("%q, not %q", got, x.s)
		}
		all = append(all, x.d)
		text += x.s + "\n"
		if got := shown(t, all); got != text {
			t.Errorf("%q, not %q", got, text)
		}
	}
	if shown(t, nil) != "" || shown(t, []api.Decl{}) != "" {
		t.Error("the text of no declarations is empty")
	}
}

// P4.1: MaxDecls declarations, MaxParams parameters and arguments, MaxNest deep; and one more, which is no program.
func TestLimits(t *testing.T) {
	for n := range api.MaxParams + 2 {
		params, args := slices.Repeat([]string{"p"}, n), slices.Repeat(list(number(1)), n)
		f := []api.Decl{{Kind: api.Func, Name: "f", Params: params}}
		call := threadOf(api.Stmt{Kind: api.Call, Name: "f", E: args})
		if n > api.MaxParams {
			refused(t, "parameters", f, api.ErrForm)
			refused(t, "arguments", call, api.ErrForm)
			continue
		}
		if s, want := shown(t, f), "func f("+strings.Join(params, ", ")+") { }\n"; s != want {
			t.Errorf("%q, not %q", s, want)
		}
		if s, want := shown(t, call), "thread t { call f("+strings.ReplaceAll(strings.Join(params, ", "), "p", "1")+"); }\n"; s != want {
			t.Errorf("%q, not %q", s, want)
		}
	}
	locks := slices.Repeat([]api.Decl{{Kind: api.Lock, Name: "l"}}, api.MaxDecls+1)
	if s := shown(t, locks[1:]); s != strings.Repeat("lock l;\n", api.MaxDecls) {
		t.Errorf("%d bytes", len(s))
	}
	refused(t, "declarations", locks, api.ErrForm)
	refused(t, "an array of none", []api.Decl{{Kind: api.Array, Name: "a"}}, api.ErrForm)
	refused(t, "an array too large", []api.Decl{{Kind: api.Array, Name: "a", N: api.MaxSize + 1}}, api.ErrForm)
}

// P4.1, P4.2: as deep as a program may be, and one deeper, of which the expression still has a text.
func TestMaxNest(t *testing.T) {
	for _, x := range []struct {
		ahead, behind string
		wrap          func(api.Expr) api.Expr
	}{
		{"-", "", func(e api.Expr) api.Expr { return unary(api.Neg, e) }},
		{"a[", "]", func(e api.Expr) api.Expr { return index("a", e) }},
		{"", " + 1", func(e api.Expr) api.Expr { return binary(api.Add, e, number(1)) }},
	} {
		e := number(1)
		for deep := 2; deep <= api.MaxNest+1; deep++ {
			text := strings.Repeat(x.ahead, deep-2) + "1" + strings.Repeat(x.behind, deep-2)
			if got := told(t, e); got != text {
				t.Errorf("%q, not %q", got, text)
			}
			if deep > api.MaxNest {
				refused(t, text, threadOf(printOf(e)), api.ErrForm)
			} else if s := shown(t, threadOf(printOf(e))); s != "thread t { print "+text+"; }\n" {
				t.Errorf("%q, not %q", s, text)
			}
			e = x.wrap(e)
		}
	}
	second, s := number(1), api.Stmt{Kind: api.With, Name: "l"}
	for range api.MaxNest - 2 {
		second, s = binary(api.Mul, number(2), second), api.Stmt{Kind: api.With, Name: "l", Body: body(s)}
	}
	if got, want := told(t, second), strings.Repeat("2 * (", api.MaxNest-3)+"2 * 1"+strings.Repeat(")", api.MaxNest-3); got != want {
		t.Errorf("%q, not %q", got, want)
	}
	deepest := threadOf(api.Stmt{Kind: api.If, E: list(truth(1)), Else: body(s)})
	if got, want := shown(t, deepest), "thread t { if true { } else { "+strings.Repeat("with l { ", api.MaxNest-1)+strings.Repeat("} ", api.MaxNest)+"}\n"; got != want {
		t.Errorf("%q, not %q", got, want)
	}
	refused(t, "statements too deep", threadOf(api.Stmt{Kind: api.While, E: list(truth(1)), Body: deepest[0].Body}), api.ErrForm)
}

// long is a program whose text has as many bytes as asked, from 40 on: the last name makes up what is missing.
func long(size int) []api.Decl {
	const piece = len("print 1; ")
	rest := size - len("lock x;\nthread t { print n; }\n")
	l := slices.Repeat(body(printOf(number(1))), rest/piece)
	l = append(l, printOf(named(strings.Repeat("n", 1+rest%piece))))
	return slices.Concat([]api.Decl{{Kind: api.Lock, Name: "x"}}, threadOf(l...))
}

// P4.1: a text of MaxText bytes, and of one more.
func TestMaxText(t *testing.T) {
	for size := 40; size <= 70; size++ {
		if s := shown(t, long(size)); len(s) != size {
			t.Fatalf("%d bytes, not %d: %q", len(s), size, s)
		}
	}
	for size := api.MaxText - 20; size <= api.MaxText; size++ {
		s := shown(t, long(size))
		if l, _, e := parse.Parse(s); len(s) != size || e != api.OK || !tree.Same(l, long(size)) {
			t.Fatalf("%d bytes, not %d; read: %v", len(s), size, e)
		}
	}
	for size := api.MaxText + 1; size <= api.MaxText+20; size++ {
		refused(t, strconv.Itoa(size)+" bytes", long(size), api.ErrTooLarge)
	}
	refused(t, "far more", long(50*api.MaxText), api.ErrTooLarge)
	half := long(api.MaxText / 2)
	if s := shown(t, slices.Concat(half, half)); len(s) != api.MaxText {
		t.Errorf("%d bytes of two halves", len(s))
	}
	refused(t, "two halves, and one more", slices.Concat(half, long(api.MaxText/2+1)), api.ErrTooLarge)
	locks := slices.Repeat([]api.Decl{{Kind: api.Lock, Name: "x"}}, api.MaxDecls)
	refused(t, "too large, and no program", slices.Concat(long(api.MaxText+1), locks), api.ErrForm)
	bad := long(api.MaxText + 1)
	bad[1].Body = append(bad[1].Body, api.Stmt{Kind: api.Print})
	refused(t, "too large, and the last statement may not be", bad, api.ErrForm)
}

// P4.1: an expression's text may be longer than a program's may be.
func TestLongExpr(t *testing.T) {
	e, want := named(longName), longName
	for len(want) <= 2*api.MaxText {
		e, want = binary(api.Or, e, named(longName)), want+" || "+longName
	}
	if s := told(t, e); s != want {
		t.Errorf("%d bytes, not %d", len(s), len(want))
	}
	refused(t, "deep", threadOf(printOf(e)), api.ErrForm)
}

// badExprs are expressions of each Kind that may not be.
func badExprs() []api.Expr {
	x := named("x")
	out := []api.Expr{
		{}, {Kind: api.Or + 1}, {Kind: 255}, {Kind: api.Int, N: -1}, {Kind: api.Int, N: math.MinInt64}, {Kind: api.Bool, N: 2}, {Kind: api.Bool, N: -1},
		{Kind: api.Var}, named("if"), named("1x"), named("x y"), named("x "), named(longName + "N"), named("true"),
		{Kind: api.Index, Name: "a"}, {Kind: api.Index, Args: list(x)}, {Kind: api.Index, Name: "else", Args: list(x)}, {Kind: api.Index, Name: "a", Args: list(x, x)},
		{Kind: api.Int, Name: "x"}, {Kind: api.Bool, Name: "x"}, {Kind: api.Int, Args: list(x)}, {Kind: api.Bool, Args: list(x)},
		{Kind: api.Var, Name: "x", N: 1}, {Kind: api.Var, Name: "x", Args: list(x)}, {Kind: api.Index, Name: "a", N: 1, Args: list(x)},
	}
	for kind := api.Neg; kind <= api.Or; kind++ {
		fine := list(x, x)
		if kind < api.Add {
			fine = list(x)
		}
		out = append(out, api.Expr{Kind: kind}, api.Expr{Kind: kind, Args: fine[1:]}, api.Expr{Kind: kind, Args: append(list(x), fine...)},
			api.Expr{Kind: kind, Name: "x", Args: fine}, api.Expr{Kind: kind, N: 1, Args: fine})
	}
	return out
}

// badStmts are statements of each Kind that may not be.
func badStmts() []api.Stmt {
	out := []api.Stmt{{}, {Kind: api.Return + 1}, {Kind: 255}}
	for _, s := range stmts(number(1), body(printOf(number(1)))) {
		for _, spoil := range []func(*api.Stmt){
			func(s *api.Stmt) { s.Name += "$" },
			func(s *api.Stmt) { s.To, s.New = "", true },
			func(s *api.Stmt) { s.To = "while" },
			func(s *api.Stmt) { s.E = slices.Repeat(list(number(1)), api.MaxParams+1) },
			func(s *api.Stmt) { s.E = list(badExprs()[int(s.Kind)]) },
			func(s *api.Stmt) { s.Body = body(api.Stmt{}) },
			func(s *api.Stmt) { s.Else = body(api.Stmt{}) },
		} {
			bad := s
			spoil(&bad)
			out = append(out, bad)
		}
		if s.Kind != api.Call {
			bad := s
			bad.E = append(slices.Clone(s.E), number(1))
			out = append(out, bad)
		}
		if s.Kind != api.Call && len(s.E) > 0 {
			bad := s
			bad.E = s.E[1:]
			out = append(out, bad)
		}
		if s.Kind != api.If {
			bad := s
			bad.Else = body(printOf(number(1)))
			out = append(out, bad)
		}
	}
	return out
}

// P4.1: what may not be is refused, wherever it stands, and nothing is told beside it.
func TestRefused(t *testing.T) {
	for _, bad := range badExprs() {
		for _, e := range append(around(bad), bad) {
			if s, err := print.Expr(e); s != "" || err != api.ErrForm {
				t.Errorf("%v: %q, %v", e, s, err)
			}
		}
		for _, s := range stmts(bad, nil) {
			if l := threadOf(s); !tree.May(l) {
				refused(t, "an expression", l, api.ErrForm)
			} else if s.Kind != api.With && s.Kind != api.Call {
				t.Errorf("may be: %v", s)
			}
		}
	}
	for _, bad := range badStmts() {
		refused(t, "a statement", threadOf(bad), api.ErrForm)
		refused(t, "a statement behind others", slices.Concat(threadOf(), threadOf(printOf(number(1)), bad)), api.ErrForm)
		for _, s := range stmts(number(1), body(bad))[4:10] {
			refused(t, "a statement within", threadOf(s), api.ErrForm)
		}
	}
	for _, bad := range []api.Decl{
		{}, {Name: "x"}, {Kind: api.Thread + 1, Name: "x"}, {Kind: 255, Name: "x"},
		{Kind: api.Global}, {Kind: api.Global, Name: "global"}, {Kind: api.Array, N: 1}, {Kind: api.Lock}, {Kind: api.Func}, {Kind: api.Thread}, {Kind: api.Lock, Name: "x\n"},
		{Kind: api.Array, Name: "x", N: -1}, {Kind: api.Lock, Name: "x", N: 1}, {Kind: api.Func, Name: "x", N: 1}, {Kind: api.Thread, Name: "x", N: 1},
		{Kind: api.Global, Name: "x", Params: []string{"p"}}, {Kind: api.Array, Name: "x", N: 1, Params: []string{"p"}}, {Kind: api.Lock, Name: "x", Params: []string{"p"}}, {Kind: api.Thread, Name: "x", Params: []string{"p"}},
		{Kind: api.Global, Name: "x", Body: body(printOf(number(1)))}, {Kind: api.Array, Name: "x", N: 1, Body: body(printOf(number(1)))}, {Kind: api.Lock, Name: "x", Body: body(printOf(number(1)))},
		{Kind: api.Func, Name: "x", Params: []string{""}}, {Kind: api.Func, Name: "x", Params: []string{"p", "with"}},
	} {
		refused(t, "a declaration", []api.Decl{bad}, api.ErrForm)
		refused(t, "the last declaration", append(threadOf(), bad), api.ErrForm)
		refused(t, "the first declaration", append([]api.Decl{bad}, threadOf()...), api.ErrForm)
	}
}

// P4.2, P4.3: an expression's text is read as that expression, and not with one pair of ( ) less.
func TestBare(t *testing.T) {
	pairs := 0
	check := func(e api.Expr) {
		s := told(t, e)
		if read, ok := readExpr(s); !ok || !tree.SameExpr(read, e) {
			t.Fatalf("%q is not read as %v", s, e)
		}
		var open []int
		for i := range s {
			switch s[i] {
			case '(':
				open = append(open, i)
			case ')':
				from := open[len(open)-1]
				open = open[:len(open)-1]
				less := s[:from] + s[from+1:i] + s[i+1:]
				if read, ok := readExpr(less); ok && tree.SameExpr(read, e) {
					t.Fatalf("%q is read as %q", less, s)
				}
				pairs++
			}
		}
	}
	for _, e := range exprs() {
		check(e)
	}
	m := &maker{seed: 1}
	for range 3000 {
		check(m.expr(9))
	}
	if pairs < 10000 {
		t.Error("too few:", pairs)
	}
}

// P4.2: a program's text is read as that program.
func TestBack(t *testing.T) {
	all := programs()
	m := &maker{seed: 2}
	for range 1500 {
		all = append(all, m.program())
	}
	for _, l := range all {
		s := shown(t, l)
		if read, at, err := parse.Parse(s); err != api.OK || !tree.Same(read, l) {
			t.Fatalf("%q is not read as %v: %d %v", s, l, at, err)
		}
	}
}

// spaced are a text's tokens with something idle between, as may be.
func spaced(s string, m *maker) string {
	tokens, _, _ := lex.Tokens(s)
	var b strings.Builder
	last := ""
	for _, x := range tokens {
		gap := []string{"", "", " ", "\n", "\t \n", "# ) }\n"}[m.next(6)]
		if both, _, e := lex.Tokens(last + x.Text); gap == "" && last != "" && (e != api.OK || len(both) != 2 || both[1].Text != x.Text) {
			gap = " "
		}
		b.WriteString(gap + x.Text)
		last = x.Text
	}
	return b.String()
}

// P4.2: of what is read, however it was written, there is a text, and it is read as that.
func TestRead(t *testing.T) {
	m := &maker{seed: 3}
	for range 1000 {
		s := shown(t, m.program())
		wide := spaced(s, m)
		l, _, err := parse.Parse(wide)
		if got := shown(t, l); err != api.OK || got != s {
			t.Fatalf("%q: %v, %q, not %q", wide, err, got, s)
		}
	}
	for s, want := range map[string]string{
		"":       "",
		"# none": "",
		"thread t{print a>b;print(a)>=((b));if(b){}else{}}": "thread t { print b < a; print b <= a; if b { } }\n",
		"thread t{x=(a+b)+(c+d);y=(a*b)-(-c);z=-(-(1));}":   "thread t { x = a + b + (c + d); y = a * b - -c; z = --1; }\n",
		"thread t{print((a&&b)||c)&&(d||(e&&f));}":          "thread t { print (a && b || c) && (d || e && f); }\n",
		"thread t{print(a<b)>c;print c>(a<b);}":             "thread t { print c < (a < b); print (a < b) < c; }\n",
		"global x=-0;global y=-\n1;lock l;lock l;":          "global x = 0;\nglobal y = -1;\nlock l;\nlock l;\n",
		"func f(p,q){var v=call f((p),a[(q)]);return(v);}":  "func f(p, q) { var v = call f(p, a[q]); return v; }\n",
	} {
		l, _, err := parse.Parse(s)
		if got := shown(t, l); err != api.OK || got != want {
			t.Errorf("%q: %v, %q, not %q", s, err, got, want)
		}
	}
	narrow := "thread t{" + strings.Repeat("x=1;", (api.MaxText-10)/4) + "}"
	l, _, err := parse.Parse(narrow)
	if err != api.OK {
		t.Fatal(err)
	}
	refused(t, "what is read, and longer with its blanks", l, api.ErrTooLarge)
}

// P4.4: a program's text are its declarations' texts, each as it is alone.
func TestLineByLine(t *testing.T) {
	m := &maker{seed: 4}
	all := programs()
	for range 500 {
		all = append(all, m.program())
	}
	for _, l := range all {
		s := shown(t, l)
		lines, _ := print.Lines(l)
		for i, x := range lines {
			if alone := shown(t, l[i:i+1]); alone != x+"\n" {
				t.Fatalf("alone %q, with others %q", alone, x)
			}
		}
		if strings.Count(s, "\n") != len(l) || s != "" && s[len(s)-1] != '\n' {
			t.Fatalf("%q has not %d lines", s, len(l))
		}
	}
}

// moved is a program with all in it at another place, and with lists that are not nil.
func moved(l []api.Decl, at int) []api.Decl {
	var exprs func(l []api.Expr) []api.Expr
	exprs = func(l []api.Expr) []api.Expr {
		out := make([]api.Expr, 0, len(l))
		for _, e := range l {
			e.At, e.Args = at, exprs(e.Args)
			out = append(out, e)
		}
		return out
	}
	var stmts func(l []api.Stmt) []api.Stmt
	stmts = func(l []api.Stmt) []api.Stmt {
		out := make([]api.Stmt, 0, len(l))
		for _, s := range l {
			s.At, s.E, s.Body, s.Else = at, exprs(s.E), stmts(s.Body), stmts(s.Else)
			out = append(out, s)
		}
		return out
	}
	out := make([]api.Decl, 0, len(l))
	for _, d := range l {
		d.At, d.Params, d.Body = at, append(make([]string, 0, 3), d.Params...), stmts(d.Body)
		out = append(out, d)
	}
	return out
}

// P4.5: two programs have one text just if they are the same, wherever all in them stands.
func TestTwo(t *testing.T) {
	all := programs()
	m := &maker{seed: 5}
	for range 800 {
		all = append(all, m.program())
	}
	firsts := map[string]int{}
	for i, l := range all {
		s := shown(t, l)
		if first, ok := firsts[s]; ok && !tree.Same(all[first], l) {
			t.Fatalf("%q is the text of %v and %v", s, all[first], l)
		} else if !ok {
			firsts[s] = i
		}
		for _, at := range []int{3, math.MinInt} {
			if other := shown(t, moved(l, at)); other != s {
				t.Fatalf("%q, and at %d %q", s, at, other)
			}
		}
	}
}

// P4.5: no two expressions have one text.
func TestTwoExprs(t *testing.T) {
	firsts := map[string]api.Expr{}
	for _, e := range exprs() {
		s := told(t, e)
		if first, ok := firsts[s]; ok && !tree.SameExpr(first, e) {
			t.Fatalf("%q is the text of %v and %v", s, first, e)
		}
		firsts[s] = e
		e.At = -5
		if told(t, e) != s {
			t.Fatalf("%q hangs on where it stands", s)
		}
	}
}

// R2, R3: what is handed in is not changed, not read behind its end, nor kept; answers are new each time, and the same.
func TestApart(t *testing.T) {
	for _, l := range programs() {
		fresh := moved(l, 1)
		room := append(slices.Clone(l), api.Decl{Kind: 200})[:len(l)]
		for i := range room {
			room[i].Body = append(slices.Clone(l[i].Body), api.Stmt{Kind: 200})[:len(l[i].Body)]
			room[i].Params = append(slices.Clone(l[i].Params), "")[:len(l[i].Params)]
		}
		a, _ := print.Lines(l)
		b, _ := print.Lines(room)
		if !slices.Equal(a, b) || shown(t, l) != shown(t, room) {
			t.Fatalf("%q with room behind the end: %q", a, b)
		}
		if !reflect.DeepEqual(moved(l, 1), fresh) || room[:len(l)+1][len(l)].Kind != 200 {
			t.Fatalf("changed: %v", l)
		}
		kept := slices.Clone(b)
		for i := range a {
			a[i] = "?"
		}
		if again, _ := print.Lines(l); !slices.Equal(again, kept) || !slices.Equal(b, kept) {
			t.Fatalf("%q, not %q", again, kept)
		}
	}
	name := strings.Clone(longName)
	if s := told(t, named(name)); unsafe.StringData(s) == unsafe.StringData(name) {
		t.Error("a text shares its bytes with a name")
	}
}

// R1, Limits: texts of what is as deep, and as wide, as the bound says.
func TestDeep(t *testing.T) {
	const deep, wide = 1<<16 - 1, 1 << 18
	for kind, want := range map[uint8]string{
		api.Index: strings.Repeat("a[", deep) + "1" + strings.Repeat("]", deep),
		api.Not:   strings.Repeat("!", deep) + "1",
		api.Sub:   strings.Repeat("2 - (", deep-1) + "2 - 1" + strings.Repeat(")", deep-1),
	} {
		e := number(1)
		for range deep {
			switch kind {
			case api.Index:
				e = index("a", e)
			case api.Sub:
				e = binary(kind, number(2), e)
			default:
				e = unary(kind, e)
			}
		}
		if s := told(t, e); s != want {
			t.Errorf("Kind %d: %d bytes, not %d", kind, len(s), len(want))
		}
		refused(t, "deep", threadOf(printOf(e)), api.ErrForm)
	}
	s := api.Stmt{Kind: api.With, Name: "l"}
	for range deep - 1 {
		s = api.Stmt{Kind: api.With, Name: "l", Body: body(s)}
	}
	refused(t, "deep", threadOf(s), api.ErrForm)
	refused(t, "wide", threadOf(slices.Repeat(body(printOf(number(1))), wide)...), api.ErrTooLarge)
}
