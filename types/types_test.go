package types_test

import (
	"math"
	"slices"
	"strconv"
	"strings"
	"testing"

	"bobbin/api"
	"bobbin/parse"
	"bobbin/tree"
	"bobbin/types"
)

// all declares one of each Kind; the texts of the tables stand behind it.
const all = "global x = 1; array a[3]; lock k; func f(p, q) { } func g() { } "

// read is the program of a text, of which a @ tells a place, 0 if there is none.
func read(t *testing.T, s string) ([]api.Decl, int) {
	t.Helper()
	at := max(0, strings.Index(s, "@"))
	l, _, err := parse.Parse(strings.Replace(s, "@", "", 1))
	if err != api.OK {
		t.Fatalf("%q can't be read: %v", s, err)
	}
	return l, at
}

// expect holds what Check answers against what is asked.
func expect(t *testing.T, what string, l []api.Decl, at int, err api.Errno) {
	t.Helper()
	if got, e := types.Check(l); got != at || e != err {
		t.Errorf("%s: %d %d, not %d %d", what, got, e, at, err)
	}
}

func expectAll(t *testing.T, err api.Errno, texts ...string) {
	t.Helper()
	for _, s := range texts {
		l, at := read(t, s)
		expect(t, s, l, at, err)
	}
}

// inThread are texts of what stands in a thread, behind all.
func inThread(bodies ...string) []string {
	var out []string
	for _, s := range bodies {
		out = append(out, all+"thread t { "+s+" }")
	}
	return out
}

// P5.1: the chapter's examples.
func TestExamples(t *testing.T) {
	expectAll(t, api.OK, "global x = 1; thread t { var y = x; print y; }")
	expectAll(t, api.ErrName, "thread t { print @z; }", "global x = 1; thread t { @var x = 1; }", "thread t { if true { var a = 1; } print @a; }")
	expectAll(t, api.ErrType, "thread t { if @1 { } }", "thread t { @return 1; }")
	expectAll(t, api.ErrLoop, "@func f() { call g(); } func g() { call f(); }", "@func f() { call f(); }")
}

// P5.1: programs whose names are known, and whose types fit; none at all, too.
func TestFine(t *testing.T) {
	expect(t, "nil", nil, 0, api.OK)
	expect(t, "empty", []api.Decl{}, 0, api.OK)
	expectAll(t, api.OK, "", all, "func f() { } thread t { }", "func f(p) { return p; }", "func f() { return 1; }", "lock l;",
		"thread t { print x; call f(y); } func f(x2) { print x; } global x = 1; global y = 2;")
	expectAll(t, api.OK, inThread(
		"var v = 1; v = v + x; x = v; a[v] = a[a[x]];",
		"var v = true; v = !v || v && 1 < 2; if v { while v { v = false; } }",
		"var v = x < 1; v = v && v;",
		"call f(1, x); call g(); var v = call g(); v = call f(v, v); print v;",
		"with k { with k { print 1; } }",
		"if 1 == x { } else { print -x % a[1]; }",
		"while !(1 <= 2) { a[1] = 2; }",
		"if true { var v = 1; print v; } else { print 2; } var w = 1; while true { w = 2; var u = w; u = u; }",
	)...)
}

// P5.1, P5.4: of two declarations of one name the one behind is told, whatever they are.
func TestTwice(t *testing.T) {
	kinds := []string{"global %=1;", "array %[1];", "lock %;", "func %() { }", "func %(p) { }", "thread % { }"}
	for _, first := range kinds {
		for _, second := range kinds {
			one, two := strings.ReplaceAll(first, "%", "n"), strings.ReplaceAll(second, "%", "n")
			expectAll(t, api.ErrName, one+"@"+two, "global y = 1;"+one+"lock l;@"+two+one+two)
			expectAll(t, api.OK, one+strings.ReplaceAll(second, "%", "N"))
		}
		other := strings.ReplaceAll(first, "%", "m")
		expectAll(t, api.ErrName, other+"@func f(m) { }", "@func f(q, m) { }"+other, "func f(p) { } @func e(q, m, f) { }"+other)
		expectAll(t, api.ErrName, other+"thread t { @var m = 1; }", "thread t { if true { @var m = call f(); } } func f() { }"+other)
	}
	expectAll(t, api.ErrName, "@func f(f) { }", "@func f(p, p) { }", "func f(p, q) { } @func g(p, q, p) { }", "@func f(g) { } func g() { }",
		"func f() { @var f = 1; }", "thread t { @var t = 1; }", "@func f(t) { } thread t { }")
}

// P5.1: a local one may be declared once, in whatever block; in another func, or thread, once more.
func TestOnce(t *testing.T) {
	expectAll(t, api.ErrName, inThread(
		"var v = 1; @var v = 1;",
		"var v = 1; @var v = true;",
		"var v = 1; @var v = call g();",
		"var v = call g(); @var v = call g();",
		"var v = call g(); @var v = v;",
		"if true { var v = 1; } else { @var v = 1; }",
		"if true { var v = 1; } @var v = 1;",
		"if true { } else { var v = 1; } @var v = 1;",
		"while true { var v = 1; } @var v = 1;",
		"with k { var v = call g(); } if true { @var v = call g(); }",
		"var v = 1; if true { while true { with k { @var v = 1; } } }",
		"if true { if true { var v = 1; } } while true { with k { @var v = 1; } }",
		"@var a = 1;", "@var x = x;", "@var k = true;", "@var f = call g();", "@var t = 1;",
	)...)
	expectAll(t, api.ErrName, "func f(p) { @var p = 1; }", "func f(p) { if true { @var p = p; } }", "func f(q, p) { @var p = call g(); } func g() { }",
		"func f() { @var l = 1; } lock l;", "func f() { var n = 1; } thread t { var n = 1; } func g(n) { @var n = 2; }")
	expectAll(t, api.OK, "func f(p) { var v = 1; } func g(p, v) { } thread t { var p = true; var v = 1; } thread u { if true { var v = p2; } var p = 1; } global p2 = 1;")
}

// P5.1: a local one is known behind its statement, up to the end of the block in which that stands.
func TestKnown(t *testing.T) {
	expectAll(t, api.ErrName, inThread(
		"var v = @v;", "var v = 1 + @v;", "print @v; var v = 1;", "@v = 1; var v = 1;", "var v = call f(1, @v);", "@v = call g(); var v = 1;",
		"if true { var v = 1; } print @v;",
		"if true { var v = 1; } @v = 1;",
		"if true { var v = 1; } print @v[1];",
		"if true { var v = 1; } @v[1] = 1;",
		"if true { var v = 1; } @with v { }",
		"if true { var v = 1; } @call v();",
		"if true { var v = 1; } @v = call g();",
		"if true { var v = 1; } var w = @v;",
		"if true { var v = 1; } else { print @v; }",
		"if true { } else { var v = 1; } print @v;",
		"if true { } else { var v = call g(); } print @v;",
		"while true { var v = 1; } print @v;",
		"while true { print @v; var v = 1; }",
		"while @v { var v = true; }",
		"with k { var v = call g(); } print @v;",
		"with k { with k { var v = 1; } print @v; }",
		"while true { if true { var v = 1; } print @v; }",
		"if true { var w = 1; if true { var v = 1; } print w; print @v; }",
	)...)
	expectAll(t, api.OK, inThread(
		"var v = 1; if true { print v; } else { v = 2; } while true { print v; } with k { print v; } print v;",
		"var v = call g(); v = v;",
		"if true { var v = 1; if true { while true { with k { print v; } } } print v; }",
		"if true { var v = 1; print v; } else { var w = 1; print w; } var u = 1; print u;",
	)...)
	expectAll(t, api.ErrName, "func f(p) { } func g() { print @p; }", "func f() { var v = 1; } thread t { print @v; }", "func f(p) { } thread t { @p = 1; }", "thread t { var v = 1; } thread u { @call v(); }")
	expectAll(t, api.OK, "func f(p, q) { if true { p = q; print p; } q = p; p = call g(); return p; } func g() { }")
}

// P5.1: what a name may stand for, as the table says: a row a use of a name, a column what the name is.
func TestUses(t *testing.T) {
	known := "var n = 1; var b = true; if true { var gone = 1; } "
	names := []string{"none", "x", "a", "k", "f", "t", "n", "b", "gone"}
	for use, want := range map[string]string{ // N: ErrName, T: ErrType, E: ErrType of the E behind the =, -: OK
		"print @%;":          "N-TTTT-TN",
		"if @% == 1 { }":     "N-TTTT-TN",
		"if @% { }":          "NTTTTTT-N",
		"a[@%] = 1;":         "N-TTTT-TN",
		"call f(1, @%);":     "N-TTTT-TN",
		"print @%[1];":       "NT-TTTTTN",
		"@%[1] = 1;":         "NT-TTTTTN",
		"@% = x;":            "N-TTTT-EN",
		"@% = b;":            "NETTTTE-N",
		"@with % { }":        "NTT-TTTTN",
		"@call %(1, 2);":     "NTTT-TTTN",
		"var v = @%;":        "N-TTTT--N",
		"@% = call g();":     "NTTTTT-TN",
		"@var % = 1;":        "-NNNNNNNN",
		"@var % = call g();": "-NNNNNNNN",
	} {
		for i, name := range names {
			s := all + "thread t { " + known + strings.ReplaceAll(use, "%", name) + " }"
			l, at := read(t, s)
			switch want[i] {
			case 'N':
				expect(t, s, l, at, api.ErrName)
			case 'T':
				expect(t, s, l, at, api.ErrType)
			case 'E':
				expect(t, s, l, at+len(name)+len(" = "), api.ErrType)
			default:
				expect(t, s, l, 0, api.OK)
			}
		}
	}
}

// P5.1: what each operator asks, at each of its places, and what it makes.
func TestOperators(t *testing.T) {
	ops := map[string]string{"||": "tt", "&&": "tt", "<": "nt", "<=": "nt", "==": "nt", "!=": "nt", "+": "nn", "-": "nn", "*": "nn", "/": "nn", "%": "nn"}
	values := map[byte][]string{'n': {"1", "x", "n", "a[2]", "-1", "(1 + 2)"}, 't': {"true", "false", "b", "!b", "(1 < 2)", "(b && b)"}}
	const known = "var n = 1; var b = true; "
	for op, kinds := range ops {
		asked, made := kinds[0], kinds[1]
		other := "nt"[1-strings.IndexByte("nt", asked)]
		for i, v := range values[asked] {
			w := values[asked][(i+1)%len(values[asked])]
			fit := "print " + v + op + w + ";"
			if made == 't' {
				fit = "if " + v + op + w + " { } "
			}
			expectAll(t, api.OK, inThread(known+fit, known+"var u = "+v+op+w+";")...)
			for _, x := range values[other] {
				at := "@" + x
				if inner, ok := strings.CutPrefix(x, "("); ok {
					space := strings.Index(inner, " ")
					at = "(" + inner[:space+1] + "@" + inner[space+1:]
				}
				expectAll(t, api.ErrType, inThread(known+"var u = "+at+op+v+";", known+"var u = "+v+op+at+";", known+"var u = !("+at+op+v+");")...)
			}
		}
	}
	expectAll(t, api.ErrType, inThread("print -@true;", "print @!true;", "var v = !@1;", "var v = !@-1;", "var v = -@!true;", "if @-1 { }", "if !@x { }",
		"print a[@true];", "print a[@!true];", "print a[1 @< 2];", "print @true;", "print 1 @< 2;", "print @!false;", "print true @&& true;")...)
}

// P5.1: what statements ask of their E.
func TestStatements(t *testing.T) {
	expectAll(t, api.ErrType, inThread(
		"a[@true] = 1;", "a[1] = @true;", "a[1] = 1 @< 2;", "x = @true;", "var v = 1; v = @false;", "var v = true; v = @1;", "var v = call g(); v = @true;",
		"if @1 { }", "if @x { }", "while @1 { }", "while 1 @+ 1 { }", "print @true;",
		"call f(@true, 1);", "call f(1, @true);", "var v = call f(1, @false);",
		"@call f();", "@call f(1);", "@call f(1, 2, 3);", "@call g(1);", "@var v = call g(1);",
		"var v = true; @v = call g();", "@x = call g();", "@a = call g();", "@t = call g();",
		"if true { print @true; }", "if true { } else { print @true; }", "while true { print @true; }", "with k { print @true; }",
	)...)
	expectAll(t, api.ErrName, inThread("@v = call g();", "if true { @v = call g(); }")...)
	expectAll(t, api.ErrType, "func f(p) { if @p { } }", "func f(p) { p = @true; }", "func f(p) { @p[1] = 1; }", "func f(p) { @call p(); }", "func f(p) { @with p { } }")
}

// P5.1: a Return stands as the last statement of a func's Body alone, and has a number.
func TestReturn(t *testing.T) {
	expectAll(t, api.ErrType,
		"thread t { @return 1; }", "thread t { print 1; @return 1; }", "thread t { if true { @return 1; } }",
		"func f() { @return 1; print 1; }", "func f() { @return 1; return 1; }", "func f() { if true { @return 1; } }",
		"func f() { if true { print 1; } else { @return 1; } }", "func f() { while true { @return 1; } return 1; }", "lock l; func f() { with l { @return 1; } }",
		"func f() { if true { @return 1; } return 1; }", "func f() { if true { if true { @return 1; } } }",
		"func f() { return @true; }", "func f() { return 1 @< 2; }", "func f(p) { var v = true; return @v; }",
		"thread t { @return true; }", "thread t { @return z; }", "func f() { @return z; print 1; }")
	expectAll(t, api.ErrName, "func f() { return @z; }", "func f() { return 1 + @z; }", "func f() { if true { var v = 1; } return @v; }")
	expectAll(t, api.OK, "func f() { return 1; }", "func f(p) { if true { } return p; }", "func f(p) { print 1; return p + p; } thread t { }")
}

// P5.1: MaxParams parameters and arguments, one more and one fewer than asked; more may not be.
func TestParams(t *testing.T) {
	var params, args []string
	for i := range api.MaxParams {
		params, args = append(params, "p"+strconv.Itoa(i)), append(args, strconv.Itoa(i))
	}
	join := func(l []string) string { return strings.Join(l, ", ") }
	whole := "func f(" + join(params) + ") { return p7; } "
	expectAll(t, api.OK, whole, whole+"thread t { call f("+join(args)+"); }", whole+"thread t { var v = call f("+join(args)+"); }")
	expectAll(t, api.ErrType, whole+"thread t { @call f("+join(args[1:])+"); }", whole+"thread t { @call f(); }", whole+"thread t { call f("+join(args[1:])+", @true); }")
	expectAll(t, api.ErrType, "func f("+join(params[1:])+") { } thread t { @call f("+join(args)+"); }", "func f() { } thread t { @call f("+join(args)+"); }")
	expectAll(t, api.ErrName, "@func f("+join(params[1:])+", p1) { }")
	long, _ := read(t, "thread t { call f("+join(args)+"); }")
	long[0].Body[0].E = append(long[0].Body[0].E, api.Expr{Kind: api.Int})
	expect(t, "too many arguments", long, 0, api.ErrForm)
	wide, _ := read(t, whole)
	wide[0].Params = append(wide[0].Params, "p8")
	expect(t, "too many parameters", wide, 0, api.ErrForm)
}

// P5.1: MaxThreads threads, and one more, wherever they stand, and whatever else is wrong.
func TestThreads(t *testing.T) {
	for n := range api.MaxThreads + 3 {
		s := ""
		for i := range n {
			s += "func f" + strconv.Itoa(i) + "() { } thread t" + strconv.Itoa(i) + " { } "
		}
		if n <= api.MaxThreads {
			expectAll(t, api.OK, s)
			expectAll(t, api.ErrName, s+"func g() { print @z; }")
			continue
		}
		for _, more := range []string{"", "func g() { print z; }", "lock t0;", "func g() { call g(); }", "thread t0 { }"} {
			l, _ := read(t, s+more)
			expect(t, s+more, l, 0, api.ErrTooLarge)
		}
		l, _ := read(t, s)
		l[0].Name = ""
		expect(t, "no program", l, 0, api.ErrForm)
	}
}

// P5.1: a func that calls itself, by whatever way: the first one that does is told.
func TestLoop(t *testing.T) {
	expectAll(t, api.ErrLoop,
		"@func f() { call f(); }", "@func f(p) { var v = call f(p); }", "@func f(p) { p = call f(p); return p; }",
		"@func f() { if true { } else { while true { with l { call f(); } } } } lock l;", "@func f() { while false { call f(); } }",
		"@func f() { call g(); } func g() { call f(); }", "@func g() { call f(); } thread t { call f(); } func f() { call g(); }",
		"@func f() { call g(); } func g() { call h(); } func h() { call f(); }",
		"func h() { call f(); } @func f() { call g(); } func g() { call f(); }",
		"func h() { call i(); call f(); call g(); } func i() { } @func f() { call i(); call g(); } func g() { call i(); call f(); }",
		"thread t { call g(); } func f() { } @func g() { call f(); call g(); } func h() { call g(); }",
		"func a() { call b(); } func b() { call c(); } @func c() { call d(); } func d() { call e(); } func e() { call c(); }",
		"func e() { call d(); } func f() { } @func d() { call d(); } func g() { call g(); }")
	expectAll(t, api.OK,
		"func f() { call g(); } func g() { }", "func f() { call g(); call h(); } func g() { call h(); } func h() { }",
		"func h() { } func g() { call h(); } func f() { call g(); call h(); call g(); } thread t { call f(); call f(); }",
		"func f() { call g(); call h(); } func g() { call i(); } func h() { call i(); } func i() { }")
}

// row are as many funcs as there may be, of which each one calls those that are told.
func row(n int, calls func(i int) []int) []api.Decl {
	var l []api.Decl
	for i := range n {
		d := api.Decl{Kind: api.Func, Name: "f" + strconv.Itoa(i), At: 100 + i}
		for _, to := range calls(i) {
			d.Body = append(d.Body, api.Stmt{Kind: api.Call, Name: "f" + strconv.Itoa(to)})
		}
		l = append(l, d)
	}
	return l
}

// P5.1, P5.2: circles of any length among MaxDecls declarations, and none where each one calls all those behind it.
func TestLongLoops(t *testing.T) {
	const n = api.MaxDecls
	behind := row(n, func(i int) []int {
		var out []int
		for j := i + 1; j < n; j++ {
			out = append(out, j)
		}
		return out
	})
	expect(t, "all behind", behind, 0, api.OK)
	for _, back := range []int{0, 1, 100, n - 2, n - 1} {
		chain := row(n, func(i int) []int {
			if i == n-1 {
				return []int{back}
			}
			return []int{i + 1}
		})
		expect(t, "back to "+strconv.Itoa(back), chain, 100+back, api.ErrLoop)
		slices.Reverse(chain)
		expect(t, "turned about", chain, 100+n-1, api.ErrLoop)
	}
	expect(t, "one more", append(behind, api.Decl{Kind: api.Lock, Name: "l"}), 0, api.ErrForm)
}

// P5.1: of two things that are wrong the first one is told: names, then each Body from the left, then circles.
func TestFirst(t *testing.T) {
	expectAll(t, api.ErrName,
		"thread t { print z; } lock l; @lock l;", "func f(f) { } lock l; @lock l; lock l;", "func f() { call f(); } @lock f;",
		"lock l; @func l(l) { }", "lock l; lock m; @lock l; lock m;", "lock l; lock m; @lock m; lock l;",
		"func f() { print @z; } func g(g) { }", "@func g(g) { } func f() { print z; }", "@func f(f) { print z; }",
		"func f() { print @z; } thread t { print true; }", "func f() { call f(); } thread t { print @z; }", "func f() { call f(); print @z; }", "func f() { print @z; call f(); }")
	expectAll(t, api.ErrName, inThread(
		"print @z; print true;", "print @z; print y;", "print @z + true;", "print @z + y;", "print @z[true];", "@z[y] = true;", "@z[true] = true;", "@z = true;", "@z = y;",
		"if @z { print true; }", "if true { print @z; } else { print true; }", "while true { print @z; } print true;", "@with z { print true; }",
		"@call z(true);", "@call z(y, y, y);", "call f(@z, true);", "var x = @z;", "@z = w;", "var x = call f(1, @z);", "call f(@z, y);",
		"@z = call f(1, 2); print true;", "var v = 1; @var v = 2; print true;", "var v = -@z + true;", "print a[@z] + true;", "if @z < y && 1 { }",
	)...)
	expectAll(t, api.ErrType, inThread(
		"print @true; print z;", "print @true + z;", "print @k[z];", "@k[z] = z;", "@k = z;", "if @1 { print z; }", "if true { print @true; } else { print z; }",
		"@with x { print z; }", "@call k(z);", "@call f(z);", "call f(@true, z);", "var x = !@1;", "x = call f(1, @true);", "z = call f(@true, z);", "var x = call f(@true, 1);",
		"@x = call f(1, 2); print z;", "a[@true] = z;", "if @1 && z { }", "if 1 + @true == z { }", "print 1 + 2 * @true + z;", "print @true - true - z;", "@return z;",
	)...)
	expectAll(t, api.ErrType, "func f() { call f(); print @true; }", "func f() { call f(); @return z; print z; }")
}

// P5.1: what may not be, of each kind that chapter 2 names, is refused ahead of all else.
func TestNoProgram(t *testing.T) {
	one := api.Expr{Kind: api.Int, N: 1}
	stmts := []api.Stmt{
		{}, {Kind: 200}, {Kind: api.Return + 1, E: []api.Expr{one}}, {Kind: api.Let, E: []api.Expr{one}}, {Kind: api.Let, Name: "v"}, {Kind: api.Set, Name: "x", E: []api.Expr{one, one}},
		{Kind: api.Put, Name: "a", E: []api.Expr{one}}, {Kind: api.If}, {Kind: api.If, Name: "x", E: []api.Expr{{Kind: api.Bool}}}, {Kind: api.While, E: []api.Expr{{Kind: api.Bool}}, Else: make([]api.Stmt, 1)},
		{Kind: api.With}, {Kind: api.With, Name: "k", E: []api.Expr{one}}, {Kind: api.Print}, {Kind: api.Print, E: []api.Expr{one}, To: "x"}, {Kind: api.Return},
		{Kind: api.Call}, {Kind: api.Call, Name: "g", New: true}, {Kind: api.Call, Name: "g", To: "if"}, {Kind: api.Call, Name: "f", E: slices.Repeat([]api.Expr{one}, 9)},
	}
	for _, e := range []api.Expr{
		{}, {Kind: api.Or + 1}, {Kind: 255}, {Kind: api.Int, N: -1}, {Kind: api.Bool, N: 2}, {Kind: api.Var}, {Kind: api.Var, Name: "true"},
		{Kind: api.Index, Name: "a"}, {Kind: api.Neg}, {Kind: api.Add, Args: []api.Expr{one}}, {Kind: api.Not, Args: []api.Expr{one, one}},
	} {
		stmts = append(stmts, api.Stmt{Kind: api.Print, E: []api.Expr{e}}, api.Stmt{Kind: api.Call, Name: "f", E: []api.Expr{one, e}})
	}
	for _, s := range stmts {
		within := []api.Stmt{{Kind: api.With, Name: "k", Body: []api.Stmt{s}}}
		for _, d := range []api.Decl{{Kind: api.Thread, Name: "t", Body: []api.Stmt{s}}, {Kind: api.Func, Name: "h", Body: within}} {
			l, _ := read(t, all)
			expect(t, "no statement", append(l, d), 0, api.ErrForm)
		}
	}
	for _, d := range []api.Decl{
		{}, {Kind: 9, Name: "n"}, {Kind: api.Global}, {Kind: api.Array, Name: "n"}, {Kind: api.Array, Name: "n", N: api.MaxSize + 1},
		{Kind: api.Lock, Name: "n", N: 1}, {Kind: api.Func, Name: "n", Params: []string{""}}, {Kind: api.Thread, Name: "n", Params: []string{"p"}}, {Kind: api.Thread, Name: "while"},
	} {
		d.At = 7
		l, _ := read(t, "thread t { print z; } "+all+all)
		expect(t, "no declaration", append(l, d), 0, api.ErrForm)
	}
}

// nested is a text of blocks within one another, each with a local one, that print one of them innermost, and another one behind.
func nested(deep int, inner, behind string) string {
	head, tail := "", "} print "+behind+"; "+strings.Repeat("} ", deep-1)
	for i := range deep {
		head += "while true { var v" + strconv.Itoa(i) + " = 1; "
	}
	return "thread t { " + head + "print " + inner + "; " + tail + "}"
}

// P5.1: MaxNest statements and expressions within one another, whose local ones are known to all those within; and one more.
func TestNest(t *testing.T) {
	const deep = api.MaxNest - 2
	last := "v" + strconv.Itoa(deep-1)
	for i := range deep {
		expectAll(t, api.OK, nested(deep, "v"+strconv.Itoa(i), "v"+strconv.Itoa(max(0, i-1))))
	}
	expectAll(t, api.ErrName, nested(deep, last, "@"+last), nested(deep, "@w", "w"))
	expectAll(t, api.ErrType, "thread t { print "+strings.Repeat("-", deep)+"@true; }")
	l, _ := read(t, nested(deep, last, "@"+last))
	within := []api.Decl{{Kind: api.Thread, Name: "u", Body: []api.Stmt{{Kind: api.While, E: []api.Expr{{Kind: api.Bool}}, Body: l[0].Body}}}}
	expect(t, "too deep", within, 0, api.ErrForm)
}

// P5.1: many programs, right and wrong ones, are judged as the chapter's table in other words judges them.
func TestJudged(t *testing.T) {
	m := &maker{seed: 1}
	seen := map[api.Errno]int{}
	for range 3000 {
		l := m.program()
		expect(t, "made", l, 0, api.OK)
		for range 4 {
			l = m.spoiled(l)
			at, err := judged(l)
			if got, e := types.Check(l); got != at || e != err {
				t.Fatalf("%v: %d %v, not %d %v", l, got, e, at, err)
			}
			seen[err]++
		}
	}
	for _, err := range []api.Errno{api.OK, api.ErrForm, api.ErrName, api.ErrType, api.ErrLoop} {
		if seen[err] < 100 {
			t.Errorf("%v is seen %d times", err, seen[err])
		}
	}
}

// P5.2: a program that is OK is so with its declarations turned about.
func TestAnyRow(t *testing.T) {
	m := &maker{seed: 2}
	for range 1000 {
		l := m.program()
		other := apart(l)
		slices.Reverse(other)
		expect(t, "turned about", other, 0, api.OK)
		expect(t, "shuffled", shuffled(m, l), 0, api.OK)
	}
}

// P5.3: a program that is OK is so without one of its threads, and without a func that no Call names.
func TestParts(t *testing.T) {
	m := &maker{seed: 3}
	less, kept := 0, 0
	for range 1000 {
		l := m.program()
		called := map[string]int{}
		for _, s := range partsOf(l).stmts {
			if s.Kind == api.Call {
				called[s.Name]++
			}
		}
		for i, d := range l {
			without := slices.Delete(apart(l), i, i+1)
			switch {
			case d.Kind == api.Thread || d.Kind == api.Func && called[d.Name] == 0:
				expect(t, "without "+d.Name, without, 0, api.OK)
				less++
			case d.Kind == api.Func:
				if _, err := types.Check(without); err != api.ErrName {
					t.Fatalf("without %s, that is called: %v", d.Name, err)
				}
				kept++
			}
		}
	}
	if less < 1000 || kept < 500 {
		t.Error("too few:", less, kept)
	}
	expectAll(t, api.OK, "func f() { } thread t { call f(); }", "func f() { }", "")
	expectAll(t, api.ErrName, "thread t { @call f(); }")
}

// P5.1: the local ones of a declaration, in the row in which they are declared, each as often as it is.
func TestLocals(t *testing.T) {
	for s, want := range map[string]string{
		"func f() { }":     "",
		"func f(p, q) { }": "p q",
		"func f(p) { var v = 1; var w = call f(v); w = call f(1); call f(2); v = w; a[v] = w; print z; return v; }":                                            "p v w",
		"thread t { if true { var a = 1; if true { var b = 1; } var c = 1; } else { var d = 1; } while true { var e = 1; } with l { var f = 1; } var g = 1; }": "a b c d e f g",
		"thread t { with l { while true { if true { } else { var z = call f(); var y = 1; } var x = 1; } } }":                                                  "z y x",
		"func f(p, p) { var p = 1; var f = 2; if true { var p = call p(); } else { var q = 1; } var q = p; }":                                                  "p p p f p q q",
		"global x = 1;": "", "array x[3];": "", "lock x;": "", "thread t { }": "", "thread t { print x; x = 1; x = call f(); call x(); with x { } }": "",
	} {
		l, _ := read(t, s)
		if got := types.Locals(l[0]); !slices.Equal(got, strings.Fields(want)) {
			t.Errorf("%s: %q, not %q", s, got, want)
		}
	}
	body := []api.Stmt{{Kind: api.Let, Name: "v"}}
	for _, kind := range []uint8{0, api.Global, api.Array, api.Lock, 6, 255} {
		if got := types.Locals(api.Decl{Kind: kind, Name: "n", Params: []string{"p"}, Body: body}); len(got) != 0 {
			t.Errorf("Kind %d, neither a func nor a thread: %q", kind, got)
		}
	}
}

// P5.4: the local ones of a func, or a thread, of a program that is OK rise when they are sorted, and no declaration has their names.
func TestLocalsOnce(t *testing.T) {
	m := &maker{seed: 4}
	most, right := 0, 0
	for range 1500 {
		l := m.program()
		for range 3 {
			if _, err := types.Check(l); err == api.OK {
				right++
				most = max(most, locals(t, l))
			}
			l = m.spoiled(l)
		}
	}
	if most < 8 || right < 2000 {
		t.Error("too few:", most, right)
	}
}

// locals holds the local ones of a program that is OK against P5.4, and tells how many the most are.
func locals(t *testing.T, l []api.Decl) int {
	t.Helper()
	most := 0
	for _, d := range l {
		names := types.Locals(d)
		most = max(most, len(names))
		slices.Sort(names)
		for i, name := range names {
			if !tree.Name(name) || i > 0 && names[i-1] == name || slices.ContainsFunc(l, func(d api.Decl) bool { return d.Name == name }) {
				t.Fatalf("%q of %q", name, names)
			}
		}
	}
	return most
}

// R2, R3: what is handed in is not changed, not read behind its end, nor kept; answers are new each time, and the same.
func TestApart(t *testing.T) {
	m := &maker{seed: 5}
	for range 200 {
		l := m.program()
		if m.next(2) == 0 {
			l = m.spoiled(l)
		}
		at, err := types.Check(l)
		fresh, room := apart(l), roomy(l)
		if got, e := types.Check(room); got != at || e != err {
			t.Fatalf("with room behind the ends: %d %v, not %d %v", got, e, at, err)
		}
		for i, d := range l {
			a, b := types.Locals(d), types.Locals(room[i])
			if !slices.Equal(a, b) {
				t.Fatalf("%q, and with room behind the ends %q", a, b)
			}
			if beyond := room[i].Params[:cap(room[i].Params)]; beyond[len(beyond)-1] != "beyond" {
				t.Fatal("written behind an end")
			}
			for j := range a {
				a[j] = "?"
			}
			_ = append(a, "?", "?")
			if again := types.Locals(d); !slices.Equal(again, b) {
				t.Fatalf("%q, not %q", again, b)
			}
		}
		if !tree.Same(l, fresh) || !tree.Same(room, fresh) {
			t.Fatalf("changed: %v", l)
		}
		if got, e := types.Check(l); got != at || e != err {
			t.Fatalf("%d %v, not %d %v again", got, e, at, err)
		}
	}
}

// roomy is a program with something wrong in the room behind each end.
func roomy(l []api.Decl) []api.Decl {
	out := append(apart(l), api.Decl{Kind: api.Thread, Name: "if"})[:len(l)]
	for _, list := range partsOf(out).lists {
		*list = append(slices.Clip(*list), api.Stmt{Kind: 200}, api.Stmt{Kind: api.Let, Name: "beyond"})[:len(*list)]
	}
	for i := range out {
		n := len(out[i].Params)
		out[i].Params = append(make([]string, 0, n+1), out[i].Params...)[:n+1]
		out[i].Params[n] = "beyond"
		out[i].Params = out[i].Params[:n]
	}
	for _, s := range partsOf(out).stmts {
		s.E = append(slices.Clip(s.E), api.Expr{})[:len(s.E)]
	}
	return out
}

// R1, Limits: trees as deep, and as wide, as the bound says.
func TestDeep(t *testing.T) {
	const deep, wide = 1<<16 - 2, 1 << 17
	let := func(i int) api.Stmt {
		return api.Stmt{Kind: api.Let, Name: "v" + strconv.Itoa(i), E: []api.Expr{{Kind: api.Int}}}
	}
	for _, other := range []bool{false, true} {
		body := []api.Stmt{let(deep)}
		for i := deep - 1; i >= 0; i-- {
			s := api.Stmt{Kind: api.If, E: []api.Expr{{Kind: api.Bool}}, Body: body}
			if other {
				s.Body, s.Else = nil, body
			}
			body = []api.Stmt{let(i), s}
		}
		d := api.Decl{Kind: api.Thread, Name: "t", Body: body}
		if got := types.Locals(d); len(got) != deep+1 || got[0] != "v0" || got[deep] != "v"+strconv.Itoa(deep) {
			t.Errorf("deep: %d local ones", len(got))
		}
		expect(t, "deep", []api.Decl{d}, 0, api.ErrForm)
	}
	e := api.Expr{Kind: api.Int}
	for range deep {
		e = api.Expr{Kind: api.Neg, Args: []api.Expr{e}}
	}
	expect(t, "deep", []api.Decl{{Kind: api.Thread, Name: "t", Body: []api.Stmt{{Kind: api.Print, E: []api.Expr{e}}}}}, 0, api.ErrForm)
	d := api.Decl{Kind: api.Func, Name: "f", At: math.MinInt}
	for i := range wide {
		d.Body = append(d.Body, let(i))
	}
	expect(t, "wide", []api.Decl{d}, 0, api.OK)
	if got := types.Locals(d); len(got) != wide || got[wide-1] != "v"+strconv.Itoa(wide-1) {
		t.Errorf("wide: %d local ones", len(got))
	}
	d.Body = append(d.Body, api.Stmt{Kind: api.Call, Name: "f", At: math.MaxInt})
	expect(t, "wide", []api.Decl{d}, math.MinInt, api.ErrLoop)
	d.Body = append(d.Body, api.Stmt{Kind: api.Let, Name: "v0", E: []api.Expr{{Kind: api.Int}}, At: math.MaxInt})
	expect(t, "wide", []api.Decl{d}, math.MaxInt, api.ErrName)
}
