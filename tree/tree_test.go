package tree_test

import (
	"math"
	"reflect"
	"slices"
	"strings"
	"testing"

	"bobbin/api"
	"bobbin/lex"
	"bobbin/tree"
)

var (
	goodNames = []string{"x", "_", "A9", "_0", "If", "iff", strings.Repeat("n", api.MaxName)}
	badNames  = []string{"", "if", "true", "9a", "a b", "a-", "é", "$", " x", "x\x00", strings.Repeat("n", api.MaxName+1)}
)

// TestExamples holds the chapter's examples (P2.1, P2.2).
func TestExamples(t *testing.T) {
	global := []api.Decl{{Kind: api.Global, Name: "x"}}
	if !tree.May(global) || tree.Depth(global) != 0 || tree.Size(global) != 1 {
		t.Error("a global:", tree.May(global), tree.Depth(global), tree.Size(global))
	}
	thread := threadOf(printOf(binary(api.Add, number(1), index("a", number(2)))))
	if !tree.May(thread) || tree.Depth(thread) != 4 || tree.Size(thread) != 6 {
		t.Error("a thread:", tree.May(thread), tree.Depth(thread), tree.Size(thread))
	}
	if tree.MayExpr(api.Expr{Kind: api.Neg, Args: []api.Expr{number(1), number(2)}}) {
		t.Error("Neg of two")
	}
	if tree.May(threadOf(api.Stmt{Kind: api.Let, E: []api.Expr{number(1)}})) {
		t.Error("a Let without a Name")
	}
}

// TestName (P2.1): a name is what it is for lex, too.
func TestName(t *testing.T) {
	for _, s := range goodNames {
		if !tree.Name(s) {
			t.Errorf("%q is a name", s)
		}
	}
	for _, s := range badNames {
		if tree.Name(s) {
			t.Errorf("%q is no name", s)
		}
	}
	for _, s := range strings.Fields("global array lock func thread var if else while with print call return true false") {
		if tree.Name(s) || !tree.Name(s+"_") || !tree.Name("_"+s) {
			t.Error("a reserved word:", s)
		}
	}
	for c := range 256 {
		for _, s := range []string{string([]byte{byte(c)}), "a" + string([]byte{byte(c)})} {
			if tree.Name(s) != lex.Name(s) {
				t.Errorf("%q: %v", s, tree.Name(s))
			}
		}
	}
}

// TestExprKinds (P2.1): each Kind, with all that it may have and may not have.
func TestExprKinds(t *testing.T) {
	args := []api.Expr{variable("a"), variable("b"), variable("c")}
	yes := 0
	for _, kind := range kindsUpTo(api.Or) {
		for _, name := range []string{"", "x", "if"} {
			for _, n := range []int64{math.MinInt64, -1, 0, 1, 2, math.MaxInt64} {
				for count := range len(args) + 1 {
					e := api.Expr{Kind: kind, Name: name, N: n, Args: args[:count], At: -count}
					if may := okExpr(e); tree.MayExpr(e) != may {
						t.Errorf("MayExpr of %v: %v", e, !may)
					} else if may {
						yes++
					}
				}
			}
		}
	}
	// Int 4 numbers, Bool 2, Var 1, Index 1, Neg and Not 1, each of the eleven others 1.
	if yes != 4+2+1+1+2+11 {
		t.Error("expressions that may be:", yes)
	}
}

// TestStmtKinds (P2.1): each Kind, with all that it may have and may not have.
func TestStmtKinds(t *testing.T) {
	body := []api.Stmt{printOf(number(1)), printOf(number(2))}
	for _, kind := range kindsUpTo(api.Return) {
		for _, name := range []string{"", "x", "if"} {
			for _, to := range []string{"", "y", "if"} {
				for count := range api.MaxParams + 2 {
					for bits := range 32 {
						s := api.Stmt{Kind: kind, Name: name, To: to, New: bits&1 > 0, E: slices.Repeat([]api.Expr{number(1)}, count), At: -1}
						s.Body, s.Else = body[:bits>>1&1+bits>>2&1], body[:bits>>3&1+bits>>4&1]
						if may := okStmt(s); tree.May(threadOf(s)) != may {
							t.Errorf("May of %v: %v", s, !may)
						}
					}
				}
			}
		}
	}
}

// TestDeclKinds (P2.1): each Kind, with all that it may have and may not have.
func TestDeclKinds(t *testing.T) {
	nine := strings.Split("a b c d e f g h i", " ")
	lists := [][]string{nil, {"a"}, nine[:api.MaxParams], nine, {""}, {"a", "if"}, {"a", "a"}, {"1", "b"}}
	for _, kind := range kindsUpTo(api.Thread) {
		for _, name := range []string{"", "x", "if"} {
			for _, n := range []int64{math.MinInt64, -1, 0, 1, 2, api.MaxSize, api.MaxSize + 1, math.MaxInt64} {
				for _, params := range lists {
					for _, body := range [][]api.Stmt{nil, {}, {printOf(number(1))}, {{}}} {
						d := api.Decl{Kind: kind, Name: name, N: n, Params: params, Body: body, At: 9}
						if may := okDecl(d); tree.May([]api.Decl{d}) != may {
							t.Errorf("May of %v: %v", d, !may)
						}
					}
				}
			}
		}
	}
}

// TestNames (P2.1): a name is asked wherever one stands.
func TestNames(t *testing.T) {
	for _, place := range []func(s string) []api.Decl{
		func(s string) []api.Decl { return []api.Decl{{Kind: api.Global, Name: s}} },
		func(s string) []api.Decl { return []api.Decl{{Kind: api.Array, Name: s, N: 1}} },
		func(s string) []api.Decl { return []api.Decl{{Kind: api.Lock, Name: s}} },
		func(s string) []api.Decl { return []api.Decl{{Kind: api.Func, Name: s}} },
		func(s string) []api.Decl { return []api.Decl{{Kind: api.Thread, Name: s}} },
		func(s string) []api.Decl { return []api.Decl{{Kind: api.Func, Name: "f", Params: []string{s}}} },
		func(s string) []api.Decl {
			return []api.Decl{{Kind: api.Func, Name: "f", Params: []string{"a", s, "b"}}}
		},
		func(s string) []api.Decl { return threadOf(setOf(api.Let, s, number(1))) },
		func(s string) []api.Decl { return threadOf(setOf(api.Set, s, number(1))) },
		func(s string) []api.Decl { return threadOf(setOf(api.Put, s, number(1), number(2))) },
		func(s string) []api.Decl { return threadOf(setOf(api.With, s)) },
		func(s string) []api.Decl { return threadOf(setOf(api.Call, s)) },
		func(s string) []api.Decl { return threadOf(api.Stmt{Kind: api.Call, Name: "f", To: s, New: true}) },
		func(s string) []api.Decl { return threadOf(printOf(variable(s))) },
		func(s string) []api.Decl { return threadOf(printOf(index(s, number(1)))) },
	} {
		for _, s := range goodNames {
			if !tree.May(place(s)) {
				t.Errorf("with the name %q: %v", s, place(s))
			}
		}
		for _, s := range badNames {
			if tree.May(place(s)) {
				t.Errorf("without a name, %q: %v", s, place(s))
			}
		}
	}
}

// TestCounts (P2.1): as many as there may be, and one more.
func TestCounts(t *testing.T) {
	params := strings.Split("a b c d e f g h i", " ")
	many := slices.Repeat([]api.Decl{{Kind: api.Lock, Name: "l"}}, api.MaxDecls+1)
	for _, x := range []struct {
		what     string
		yes, not []api.Decl
	}{
		{"declarations", many[:api.MaxDecls], many},
		{"Params", []api.Decl{{Kind: api.Func, Name: "f", Params: params[:api.MaxParams]}}, []api.Decl{{Kind: api.Func, Name: "f", Params: params}}},
		{"arguments", threadOf(setOf(api.Call, "f", slices.Repeat([]api.Expr{number(1)}, api.MaxParams)...)), threadOf(setOf(api.Call, "f", slices.Repeat([]api.Expr{number(1)}, api.MaxParams+1)...))},
		{"elements", []api.Decl{{Kind: api.Array, Name: "a", N: api.MaxSize}}, []api.Decl{{Kind: api.Array, Name: "a", N: api.MaxSize + 1}}},
		{"elements at least", []api.Decl{{Kind: api.Array, Name: "a", N: 1}}, []api.Decl{{Kind: api.Array, Name: "a"}}},
	} {
		if !tree.May(x.yes) {
			t.Error("as many as there may be:", x.what)
		}
		if tree.May(x.not) {
			t.Error("one more, or less:", x.what)
		}
	}
	if !tree.May(nil) || !tree.May([]api.Decl{}) {
		t.Error("no declaration is a program")
	}
}

// TestNest (P2.1, P2.2): MaxNest deep may be, one deeper not, whatever is within what.
func TestNest(t *testing.T) {
	stmts := wraps()
	for i := range stmts {
		for deep := 2; deep <= api.MaxNest+1; deep++ {
			s := printOf(number(1)) // as deep as the statements that wraps puts beside it
			for j := range deep - 2 {
				s = stmts[(i*j+i)%len(stmts)](s)
			}
			checkDepth(t, threadOf(s), deep)
			checkDepth(t, []api.Decl{{Kind: api.Func, Name: "f", Body: []api.Stmt{setOf(api.With, "l"), s}}}, deep)
		}
	}
	for _, wrap := range exprWraps() {
		e := number(1)
		for deep := 2; deep <= api.MaxNest+1; deep++ {
			checkDepth(t, threadOf(printOf(e)), deep)
			checkDepth(t, threadOf(stmts[1](setOf(api.Put, "a", number(1), e))), deep+1)
			checkDepth(t, threadOf(setOf(api.Call, "f", number(1), e, number(2))), deep)
			if !tree.MayExpr(e) {
				t.Error("MayExpr does not hang on how deep it is")
			}
			e = wrap(e)
		}
	}
}

// checkDepth holds a program, but for its depth, against a depth.
func checkDepth(t *testing.T, l []api.Decl, deep int) {
	t.Helper()
	more := slices.Concat([]api.Decl{{Kind: api.Thread, Name: "s"}}, l, []api.Decl{{Kind: api.Lock, Name: "l"}})
	for _, l := range [][]api.Decl{l, more} {
		if tree.Depth(l) != deep || tree.May(l) != (deep <= api.MaxNest) {
			t.Errorf("depth %d, not %d; may be: %v", tree.Depth(l), deep, tree.May(l))
		}
	}
}

// TestWithin (P2.1): all that is in something is asked, wherever it stands.
func TestWithin(t *testing.T) {
	badExprs := []api.Expr{{}, {Kind: api.Or + 1}, {Kind: 255}, {Kind: api.Int, N: -1}, {Kind: api.Bool, N: 2}, {Kind: api.Var}, {Kind: api.Not}, {Kind: api.Int, Name: "x"}, {Kind: api.Var, Name: "x", N: 1}}
	badStmts := []api.Stmt{{}, {Kind: api.Return + 1}, {Kind: api.Print}, {Kind: api.Let, Name: "if", E: []api.Expr{number(1)}}, {Kind: api.Call, Name: "f", New: true}}
	for _, bad := range badExprs {
		for _, wrap := range exprWraps() {
			if !tree.MayExpr(wrap(wrap(number(1)))) || tree.MayExpr(wrap(bad)) || tree.MayExpr(wrap(wrap(bad))) {
				t.Errorf("in an expression: %v", wrap(bad))
			}
		}
		for _, s := range holders(bad) {
			if tree.May(threadOf(s)) {
				t.Errorf("in a statement: %v", s)
			}
			badStmts = append(badStmts, s)
		}
	}
	for _, s := range holders(number(1)) {
		if !tree.May(threadOf(s)) {
			t.Errorf("may be: %v", s)
		}
	}
	fine := printOf(number(1))
	for _, bad := range badStmts {
		for _, wrap := range wraps() {
			if !tree.May(threadOf(wrap(wrap(fine)))) || tree.May(threadOf(wrap(bad))) || tree.May(threadOf(fine, wrap(wrap(bad)), fine)) {
				t.Errorf("in a statement: %v", wrap(bad))
			}
		}
		if tree.May(slices.Concat(threadOf(fine), threadOf(fine, bad))) || tree.May(slices.Concat(threadOf(bad), threadOf(fine))) {
			t.Errorf("in the second declaration, or the first: %v", bad)
		}
	}
}

// TestMade (P2.1, P2.2): all calls, held against what the chapter says in other words, on many trees.
func TestMade(t *testing.T) {
	yes, not := 0, 0
	for seed := range 4000 {
		m := &maker{seed: uint32(seed), wild: seed % 4 * 20}
		l := m.decls()
		may := okProgram(l)
		if tree.May(l) != may {
			t.Fatalf("May: %v of %v", !may, l)
		}
		if may {
			yes++
		} else {
			not++
		}
		if tree.Depth(l) != deepDecls(l) || tree.Size(l) != countDecls(l) {
			t.Fatalf("Depth %d, Size %d of %v", tree.Depth(l), tree.Size(l), l)
		}
		e := m.expr(4)
		if tree.MayExpr(e) != okExpr(e) {
			t.Fatalf("MayExpr of %v", e)
		}
	}
	if yes < 1000 || not < 1000 {
		t.Error("programs, others:", yes, not)
	}
}

// TestWhatever (P2.2): Depth and Size go into what a Kind does not name, too.
func TestWhatever(t *testing.T) {
	inner := api.Stmt{Kind: 77, E: []api.Expr{{Args: []api.Expr{{Kind: 99}}}}}
	l := []api.Decl{{Kind: 9, Params: []string{"a", "b"}, Body: []api.Stmt{{Kind: api.Print, Body: []api.Stmt{inner}, Else: []api.Stmt{{}, inner}}}}}
	if tree.Depth(l) != 4 || tree.Size(l) != 9 {
		t.Error("Depth, Size:", tree.Depth(l), tree.Size(l))
	}
	l[0].Kind = api.Global
	if tree.Depth(l) != 4 || tree.Size(l) != 9 {
		t.Error("Depth, Size:", tree.Depth(l), tree.Size(l))
	}
	if tree.Depth(nil) != 0 || tree.Size(nil) != 0 || tree.Depth(slices.Repeat([]api.Decl{{}}, 300)) != 0 || tree.Size(slices.Repeat([]api.Decl{{}}, 300)) != 300 {
		t.Error("of nothing, and of empty declarations")
	}
}

// TestSame (P2.1): two differ by whatever they have, wherever it stands, but for At.
func TestSame(t *testing.T) {
	for _, change := range exprChanges() {
		e := fullExpr()
		change.do(&e)
		for _, wrap := range append(exprWraps(), func(e api.Expr) api.Expr { return e }) {
			a, b := wrap(fullExpr()), wrap(e)
			if tree.SameExpr(a, b) != change.same || tree.SameExpr(b, a) != change.same {
				t.Error("SameExpr:", change.what)
			}
			for i, s := range holders(b) {
				checkSame(t, change.what, threadOf(holders(a)[i]), threadOf(s), change.same)
			}
		}
	}
	for _, change := range stmtChanges() {
		s := fullStmt()
		change.do(&s)
		checkSame(t, change.what, threadOf(fullStmt()), threadOf(s), change.same)
		for _, wrap := range wraps() {
			checkSame(t, change.what, threadOf(wrap(fullStmt())), threadOf(wrap(s)), change.same)
		}
	}
	for _, change := range declChanges() {
		d := fullDecl()
		change.do(&d)
		checkSame(t, change.what, []api.Decl{fullDecl()}, []api.Decl{d}, change.same)
	}
	checkSame(t, "none", nil, []api.Decl{}, true)
	checkSame(t, "one and none", nil, []api.Decl{{}}, false)
	checkSame(t, "two and one", []api.Decl{{}, {}}, []api.Decl{{}}, false)
	checkSame(t, "turned about", []api.Decl{fullDecl(), {}}, []api.Decl{{}, fullDecl()}, false)
}

// checkSame holds Same against what it should be, either way about.
func checkSame(t *testing.T, what string, a, b []api.Decl, same bool) {
	t.Helper()
	if tree.Same(a, b) != same || tree.Same(b, a) != same {
		t.Errorf("Same, %s: %v, %v", what, tree.Same(a, b), tree.Same(b, a))
	}
}

// TestSameMade (P2.1): Same, held against a deep comparison, on many pairs that differ by little.
func TestSameMade(t *testing.T) {
	same := 0
	for seed := range 3000 {
		l := (&maker{seed: uint32(seed), wild: seed % 3 * 20}).decls()
		other := moved(l, 5)
		(&maker{seed: uint32(seed * 7)}).change(other)
		want := reflect.DeepEqual(moved(l, 0), moved(other, 0))
		if want {
			same++
		}
		checkSame(t, "made", l, other, want)
	}
	if same < 20 || same > 2000 {
		t.Error("the same:", same)
	}
}

// TestParts (P2.3): what is in a program may be by itself; two programs are as deep as the deeper one, as large as both.
func TestParts(t *testing.T) {
	var last []api.Decl
	count := 0
	for seed := range 2000 {
		l := (&maker{seed: uint32(seed)}).decls()
		if !tree.May(l) {
			continue
		}
		count++
		for i, d := range l {
			if !tree.May(l[i : i+1]) {
				t.Fatalf("a declaration: %v", d)
			}
			eachPart(d.Body, func(s api.Stmt) {
				if !tree.May(threadOf(s)) {
					t.Fatalf("a statement: %v", s)
				}
			}, func(e api.Expr) {
				if !tree.MayExpr(e) {
					t.Fatalf("an expression: %v", e)
				}
			})
		}
		both := slices.Concat(last, l)
		if !tree.May(both) || tree.Depth(both) != max(tree.Depth(last), tree.Depth(l)) || tree.Size(both) != tree.Size(last)+tree.Size(l) {
			t.Fatalf("two: %v, %v", last, l)
		}
		last = l
	}
	if count < 1000 {
		t.Error("programs:", count)
	}
}

// TestTheSame (P2.4): wherever all in a program stands, it is the same, and all calls answer the same.
func TestTheSame(t *testing.T) {
	places := []int{0, 1, -1, math.MinInt, math.MaxInt}
	for seed := range 1000 {
		l := (&maker{seed: uint32(seed), wild: seed % 3 * 20}).decls()
		other := moved(l, places[seed%len(places)])
		if !tree.Same(l, l) || !tree.Same(l, other) || !tree.Same(other, l) {
			t.Fatalf("Same: %v", l)
		}
		if tree.May(l) != tree.May(other) || tree.Depth(l) != tree.Depth(other) || tree.Size(l) != tree.Size(other) {
			t.Fatalf("what is the same: %v", l)
		}
	}
}

// TestExpression (P2.5): an expression may be just if a thread that prints it may be, but for its depth.
func TestExpression(t *testing.T) {
	yes, not := 0, 0
	for seed := range 4000 {
		m := &maker{seed: uint32(seed), wild: seed % 3 * 15}
		e := m.expr(5)
		l := threadOf(printOf(e))
		if tree.MayExpr(e) != tree.May(l) {
			t.Fatalf("MayExpr: %v of %v", tree.MayExpr(e), e)
		}
		if tree.MayExpr(e) {
			yes++
		} else {
			not++
		}
	}
	if yes < 500 || not < 500 {
		t.Error("expressions, others:", yes, not)
	}
	deep := number(1)
	for range api.MaxNest {
		deep = unary(api.Neg, deep)
	}
	if !tree.MayExpr(deep) || tree.May(threadOf(printOf(deep))) || !tree.May(threadOf(printOf(deep.Args[0].Args[0]))) {
		t.Error("one that is too deep for a program")
	}
}

// TestDeep (R1, Limits): calls end in good time on what is as deep, and as wide, as the bound says.
func TestDeep(t *testing.T) {
	const deep, wide = 1<<16 - 2, 1 << 18
	e, s := number(1), printOf(number(1))
	for range deep {
		e = unary(api.Not, e)
	}
	for range deep - 1 {
		s = api.Stmt{Kind: api.While, E: []api.Expr{truth(1)}, Body: []api.Stmt{s}}
	}
	for _, l := range [][]api.Decl{threadOf(printOf(e)), threadOf(s)} {
		other := moved(l, 3)
		if tree.May(l) || tree.Depth(l) < deep || tree.Size(l) < deep || !tree.Same(l, other) {
			t.Error("deep:", tree.May(l), tree.Depth(l), tree.Size(l), tree.Same(l, other))
		}
	}
	if !tree.MayExpr(e) || !tree.SameExpr(e, e) || tree.SameExpr(e, e.Args[0]) {
		t.Error("deep: an expression")
	}
	l := threadOf(slices.Repeat([]api.Stmt{printOf(number(1))}, wide)...)
	if !tree.May(l) || tree.Depth(l) != 2 || tree.Size(l) != 1+2*wide || !tree.Same(l, l) {
		t.Error("wide:", tree.May(l), tree.Depth(l), tree.Size(l))
	}
}

// TestApart (R2, R3): what is handed in is not changed, nor read behind its end, and answers are the same each time.
func TestApart(t *testing.T) {
	for seed := range 300 {
		fresh := func() []api.Decl { return (&maker{seed: uint32(seed), wild: seed % 3 * 20}).decls() }
		l := fresh()
		room := append(slices.Clone(l), api.Decl{Kind: 200, Body: []api.Stmt{{}}})[:len(l)]
		if tree.May(l) != tree.May(room) || tree.Depth(l) != tree.Depth(room) || tree.Size(l) != tree.Size(room) || !tree.Same(room, l) {
			t.Fatalf("with room behind the end: %v", l)
		}
		if !reflect.DeepEqual(l, fresh()) || room[:len(l)+1][len(l)].Kind != 200 {
			t.Fatalf("changed: %v", l)
		}
	}
}
