package ast_test

import (
	"math"
	"reflect"
	"slices"
	"strings"
	"testing"

	"lamplighter/api"
	"lamplighter/ast"
)

// checkProgram, checkStmt and checkExpr compare an error with the one that is
// wanted, and that with the reference.
func checkProgram(t *testing.T, name string, p api.Program, want api.Errno) {
	t.Helper()
	if e, r := ast.Check(p), expected(p); e != want || r != want {
		t.Errorf("%s: error %d, the reference says %d, want %d", name, e, r, want)
	}
}

func checkStmt(t *testing.T, name string, s api.Stmt, want api.Errno) {
	t.Helper()
	if e, r := ast.CheckStmt(s), expected(s); e != want || r != want {
		t.Errorf("%s: error %d, the reference says %d, want %d", name, e, r, want)
	}
	checkProgram(t, name+", in a program", with(s), want)
}

func checkExpr(t *testing.T, name string, x api.Expr, want api.Errno) {
	t.Helper()
	if e, r := ast.CheckExpr(x), expected(x); e != want || r != want {
		t.Errorf("%s: error %d, the reference says %d, want %d", name, e, r, want)
	}
}

// TestP61Expressions: expressions of each kind are valid, alone and wherever a
// statement may have one.
func TestP61Expressions(t *testing.T) {
	for _, e := range everyExpression() {
		checkExpr(t, text(e), e, api.OK)
		for _, s := range []api.Stmt{let("x", 1, e), set("x", e), setAt("x", e, num(1)), setAt("x", num(1), e), when(e, nil, nil), while(e), returns(e)} {
			checkStmt(t, text(e), s, api.OK)
		}
		want := api.ErrArg
		if e.Kind == api.ExCall {
			want = api.OK
		}
		checkStmt(t, "called: "+text(e), api.Stmt{Kind: api.StCall, Expr: one(e)}, want)
	}
}

// TestP61Statements: statements of each kind are valid, alone and wherever one
// may be.
func TestP61Statements(t *testing.T) {
	for _, s := range everyStatement() {
		checkStmt(t, "alone", s, api.OK)
		l := []api.Stmt{s, plain(api.StLevel, 1), s}
		checkStmt(t, "in then", when(num(1), l, nil), api.OK)
		checkStmt(t, "in else", when(num(1), nil, l), api.OK)
		checkStmt(t, "in while", while(num(1), l...), api.OK)
		checkStmt(t, "in atomic", atomic([]string{"x"}, l...), api.OK)
		checkProgram(t, "in functions", api.Program{Stack: 9, Funcs: []api.Decl{on(3, 4, l...), begins(l...), function("f", nil, l...), on(3, 4, s)}}, api.OK)
	}
}

// TestP61Programs: programs with several of each, and with nothing.
func TestP61Programs(t *testing.T) {
	l := programs()
	if len(l) < 250 {
		t.Fatalf("only %d programs", len(l))
	}
	for _, p := range l {
		before := copied(p, true)
		checkProgram(t, "a program", p, api.OK)
		if !reflect.DeepEqual(copied(p, true), before) {
			t.Error("a program was changed")
		}
	}
}

// TestP61Kinds: the numbers are the document's.
func TestP61Kinds(t *testing.T) {
	for i, l := range [][]int{
		{api.ExNum, api.ExVar, api.ExIndex, api.ExCall, api.ExUn, api.ExBin, api.ExCast},
		{api.StLet, api.StSet, api.StCall, api.StIf, api.StWhile, api.StReturn, api.StEnable, api.StDisable, api.StLevel, api.StAtomic},
		{api.TyU8, api.TyU16, api.TyU32, api.TyI32}, {api.KindFunc, api.KindMain, api.KindOn},
	} {
		for at, kind := range l {
			if kind != at+1 {
				t.Errorf("list %d: %d at %d", i, kind, at)
			}
		}
	}
	if api.ExGt != 20 || api.ExGe != 21 || api.ErrArg != 2 || api.ErrLong != 3 || api.MaxSize != 4000 || api.MaxDeep != 60 {
		t.Error("the numbers of package api are others")
	}
}

// TestP61NoKind: what has no Kind, or one that does not exist.
func TestP61NoKind(t *testing.T) {
	for _, kind := range []int{math.MinInt, -1, 0, 4, 8, 11, 12, 255, 1 << 32, 1<<32 + 1, math.MaxInt} {
		for _, e := range append(everyExpression(), api.Expr{}) {
			if e.Kind = kind; kind != 4 {
				checkExpr(t, "no expression", e, api.ErrArg)
				checkStmt(t, "no expression", returns(e), api.ErrArg)
			}
		}
		for _, s := range append(everyStatement(), api.Stmt{}) {
			if s.Kind = kind; kind != 4 && kind != 8 {
				checkStmt(t, "no statement", s, api.ErrArg)
			}
		}
		for _, d := range append(firmware().Funcs, api.Decl{}) {
			d.Kind = kind
			checkProgram(t, "no function", api.Program{Stack: 1, Funcs: []api.Decl{d}}, api.ErrArg)
		}
	}
}

// TestP61Operators: which operators an ExUn and an ExBin may have.
func TestP61Operators(t *testing.T) {
	allowed := map[bool]api.Errno{true: api.OK, false: api.ErrArg}
	for op := -3; op < 300; op++ {
		isUn := 1 <= op && op <= 3
		isBin := 1 <= op && op <= 5 || 8 <= op && op <= 12 || 14 <= op && op <= 17 || op == 20 || op == 21
		checkExpr(t, "an operator on one word", un(op, num(1)), allowed[isUn])
		checkExpr(t, "an operator on two words", bin(op, num(1), num(2)), allowed[isBin])
	}
	for _, op := range []int{math.MinInt, math.MaxInt, 1 << 32, 1<<32 + 1, 1<<8 + 1} {
		checkExpr(t, "a great operator", un(op, num(1)), api.ErrArg)
		checkExpr(t, "a great operator", bin(op, num(1), num(2)), api.ErrArg)
	}
}

// TestP61Args: how many Args an expression of each kind has.
func TestP61Args(t *testing.T) {
	for _, e := range []api.Expr{num(1), named("x"), index("x", num(1)), call("x"), un(1, num(1)), bin(1, num(1), num(1)), cast(1, num(1))} {
		for n := range 20 {
			e.Args = make([]api.Expr, n)
			for i := range e.Args {
				e.Args[i] = num(uint32(i))
			}
			want := api.ErrArg
			switch {
			case e.Kind <= api.ExVar && n == 0, e.Kind == api.ExIndex && n == 1, e.Kind == api.ExCall && n <= 8,
				e.Kind == api.ExUn && n == 1, e.Kind == api.ExBin && n == 2, e.Kind == api.ExCast && n == 1:
				want = api.OK
			}
			checkExpr(t, "Args", e, want)
		}
	}
}

// TestP61Varied: one thing of a tree is other than in a valid one: a field that
// must be zero is not, one is missing, or is beyond an edge; and so on.
func TestP61Varied(t *testing.T) {
	count := map[api.Errno]int{}
	for _, e := range everyExpression() {
		vary(&e, func(way string) {
			count[expected(e)]++
			checkExpr(t, way, e, expected(e))
		})
	}
	for _, s := range everyStatement() {
		vary(&s, func(way string) {
			count[expected(s)]++
			checkStmt(t, way, s, expected(s))
		})
	}
	p := firmware()
	vary(&p, func(way string) {
		count[expected(p)]++
		checkProgram(t, way, p, expected(p))
	})
	if count[api.OK] < 2000 || count[api.ErrArg] < 10000 {
		t.Errorf("%v", count)
	}
}

// TestP61MustBeZero: for each kind, each field that it does not have.
func TestP61MustBeZero(t *testing.T) {
	for kind, fields := range has[reflect.TypeFor[api.Expr]()] {
		for _, e := range everyExpression() {
			for name, change := range map[string]func(e *api.Expr){
				"Op": func(e *api.Expr) { e.Op = 1 }, "Type": func(e *api.Expr) { e.Type = 1 }, "N": func(e *api.Expr) { e.N = 1 },
				"Name": func(e *api.Expr) { e.Name = "x" }, "Args": func(e *api.Expr) { e.Args = one(num(1)) },
			} {
				if e := e; e.Kind == kind && !slices.Contains(strings.Fields(fields), name) {
					change(&e)
					checkExpr(t, name, e, api.ErrArg)
				}
			}
		}
	}
	for kind, fields := range has[reflect.TypeFor[api.Stmt]()] {
		for _, s := range everyStatement() {
			for name, change := range map[string]func(s *api.Stmt){
				"Type": func(s *api.Stmt) { s.Type = 1 }, "N": func(s *api.Stmt) { s.N = 1 },
				"Name": func(s *api.Stmt) { s.Name = "x" }, "Names": func(s *api.Stmt) { s.Names = []string{"x"} },
				"Index": func(s *api.Stmt) { s.Index = one(num(1)) }, "Expr": func(s *api.Stmt) { s.Expr = one(call("f")) },
				"Then": func(s *api.Stmt) { s.Then = []api.Stmt{set("x", num(1))} }, "Else": func(s *api.Stmt) { s.Else = []api.Stmt{set("x", num(1))} },
			} {
				if s := s; s.Kind == kind && !slices.Contains(strings.Fields(fields), name) {
					change(&s)
					checkStmt(t, name, s, api.ErrArg)
				}
			}
		}
	}
}

// changed is a program, one thing of which is other than in a valid one.
type changed struct {
	name   string
	want   api.Errno
	change func(p *api.Program)
}

// edges are changes of the firmware at the edges that the chapter names.
func edges() []changed {
	words := func(n int) []uint32 { return make([]uint32, n) }
	params := func(n int) []api.Param {
		return slices.Repeat([]api.Param{{Name: "x", Type: api.TyU8}}, n)
	}
	return []changed{
		{"Stack 0", api.ErrArg, func(p *api.Program) { p.Stack = 0 }},
		{"Stack -1", api.ErrArg, func(p *api.Program) { p.Stack = -1 }},
		{"Stack 1", api.OK, func(p *api.Program) { p.Stack = 1 }},
		{"Stack 65536", api.OK, func(p *api.Program) { p.Stack = 65536 }},
		{"Stack 65537", api.ErrArg, func(p *api.Program) { p.Stack = 65537 }},
		{"a scalar without Init", api.OK, func(p *api.Program) { p.Globals[0].Init = nil }},
		{"a scalar with two words", api.ErrArg, func(p *api.Program) { p.Globals[0].Init = words(2) }},
		{"a scalar with a word that it cuts", api.OK, func(p *api.Program) { p.Globals[0].Init = []uint32{4294967295} }},
		{"Len 1, a word", api.OK, func(p *api.Program) { p.Globals[0].Len = 1 }},
		{"Len 1, two words", api.ErrArg, func(p *api.Program) { p.Globals[0].Len, p.Globals[0].Init = 1, words(2) }},
		{"Len -1", api.ErrArg, func(p *api.Program) { p.Globals[2].Len = -1 }},
		{"Len 4096", api.OK, func(p *api.Program) { p.Globals[1].Len = 4096 }},
		{"Len 4097", api.ErrArg, func(p *api.Program) { p.Globals[1].Len = 4097 }},
		{"Len words", api.OK, func(p *api.Program) { p.Globals[1].Init = words(24) }},
		{"Len words and one more", api.ErrArg, func(p *api.Program) { p.Globals[1].Init = words(25) }},
		{"4096 words", api.OK, func(p *api.Program) { p.Globals[1].Len, p.Globals[1].Init = 4096, words(4096) }},
		{"4097 words", api.ErrArg, func(p *api.Program) { p.Globals[1].Len, p.Globals[1].Init = 4096, words(4097) }},
		{"an array without Init", api.OK, func(p *api.Program) { p.Globals[1].Init = nil }},
		{"Type 0", api.ErrArg, func(p *api.Program) { p.Globals[3].Type = 0 }},
		{"Type 1", api.OK, func(p *api.Program) { p.Globals[3].Type = 1 }},
		{"Type 5", api.ErrArg, func(p *api.Program) { p.Globals[3].Type = 5 }},
		{"a global twice", api.OK, func(p *api.Program) { p.Globals = append(p.Globals, p.Globals...) }},
		{"many cells", api.OK, func(p *api.Program) { p.Globals = slices.Repeat(p.Globals, 200) }},
		{"an empty global", api.ErrArg, func(p *api.Program) { p.Globals = append(p.Globals, api.Global{}) }},
		{"a global on line 0", api.OK, func(p *api.Program) { p.Globals[0].Line = 0 }},
		{"a global on line -1", api.ErrArg, func(p *api.Program) { p.Globals[0].Line = -1 }},
		{"a gate with neither", api.ErrArg, func(p *api.Program) { p.Gates[0].Read = false }},
		{"a gate with both", api.OK, func(p *api.Program) { p.Gates[0].Write = true }},
		{"a gate with Write alone", api.OK, func(p *api.Program) { p.Gates[2].Read = false }},
		{"a gate with Read alone", api.OK, func(p *api.Program) { p.Gates[2].Write = false }},
		{"an empty gate", api.ErrArg, func(p *api.Program) { p.Gates = append(p.Gates, api.Gate{}) }},
		{"many gates", api.OK, func(p *api.Program) { p.Gates = slices.Repeat(p.Gates, 100) }},
		{"a gate on line 0", api.OK, func(p *api.Program) { p.Gates[1].Line = 0 }},
		{"a gate on line -1", api.ErrArg, func(p *api.Program) { p.Gates[1].Line = -1 }},
		{"8 Params", api.OK, func(p *api.Program) { p.Funcs[0].Params = params(8) }},
		{"9 Params", api.ErrArg, func(p *api.Program) { p.Funcs[0].Params = params(9) }},
		{"many Params", api.ErrArg, func(p *api.Program) { p.Funcs[0].Params = params(5000) }},
		{"a Param of Type 0", api.ErrArg, func(p *api.Program) { p.Funcs[0].Params[1].Type = 0 }},
		{"a Param of Type 5", api.ErrArg, func(p *api.Program) { p.Funcs[0].Params[1].Type = 5 }},
		{"a Param without a Name", api.ErrArg, func(p *api.Program) { p.Funcs[0].Params[1].Name = "" }},
		{"a function without a Name", api.ErrArg, func(p *api.Program) { p.Funcs[1].Name = "" }},
		{"a function with On", api.ErrArg, func(p *api.Program) { p.Funcs[1].On = 1 }},
		{"a function with Prio", api.ErrArg, func(p *api.Program) { p.Funcs[1].Prio = 1 }},
		{"main with a Name", api.ErrArg, func(p *api.Program) { p.Funcs[2].Name = "f" }},
		{"main with a Param", api.ErrArg, func(p *api.Program) { p.Funcs[2].Params = params(1) }},
		{"main with On", api.ErrArg, func(p *api.Program) { p.Funcs[2].On = 1 }},
		{"main with Prio", api.ErrArg, func(p *api.Program) { p.Funcs[2].Prio = 1 }},
		{"main without a Body", api.OK, func(p *api.Program) { p.Funcs[2].Body = nil }},
		{"a handler with a Name", api.ErrArg, func(p *api.Program) { p.Funcs[3].Name = "f" }},
		{"a handler with a Param", api.ErrArg, func(p *api.Program) { p.Funcs[3].Params = params(1) }},
		{"On 0", api.OK, func(p *api.Program) { p.Funcs[3].On = 0 }},
		{"On -1", api.ErrArg, func(p *api.Program) { p.Funcs[3].On = -1 }},
		{"On 31", api.OK, func(p *api.Program) { p.Funcs[3].On = 31 }},
		{"On 32", api.ErrArg, func(p *api.Program) { p.Funcs[3].On = 32 }},
		{"Prio 0", api.ErrArg, func(p *api.Program) { p.Funcs[3].Prio = 0 }},
		{"Prio -1", api.ErrArg, func(p *api.Program) { p.Funcs[3].Prio = -1 }},
		{"Prio 1", api.OK, func(p *api.Program) { p.Funcs[3].Prio = 1 }},
		{"Prio 15", api.OK, func(p *api.Program) { p.Funcs[3].Prio = 15 }},
		{"Prio 16", api.ErrArg, func(p *api.Program) { p.Funcs[3].Prio = 16 }},
		{"a function on line 0", api.OK, func(p *api.Program) { p.Funcs[0].Line = 0 }},
		{"a function on line -1", api.ErrArg, func(p *api.Program) { p.Funcs[0].Line = -1 }},
		{"main on line -1", api.ErrArg, func(p *api.Program) { p.Funcs[2].Line = -1 }},
		{"a handler on line -1", api.ErrArg, func(p *api.Program) { p.Funcs[4].Line = -1 }},
		{"no functions", api.OK, func(p *api.Program) { p.Funcs = nil }},
		{"no main", api.OK, func(p *api.Program) { p.Funcs = p.Funcs[:1] }},
		{"main twice", api.OK, func(p *api.Program) { p.Funcs = append(p.Funcs, p.Funcs[2]) }},
		{"65 functions", api.OK, func(p *api.Program) { p.Funcs = slices.Repeat(p.Funcs, 13) }},
		{"an empty function", api.ErrArg, func(p *api.Program) { p.Funcs = append(p.Funcs, api.Decl{}) }},
		{"nothing", api.ErrArg, func(p *api.Program) { *p = api.Program{} }},
		{"a wrong statement", api.ErrArg, func(p *api.Program) { p.Funcs[4].Body[1].N = 16 }},
		{"a wrong expression", api.ErrArg, func(p *api.Program) { p.Funcs[0].Body[0].Else[0].Expr[0].Op = 1 }},
		{"too many statements", api.ErrLong, func(p *api.Program) { p.Funcs[1].Body = many(4001 - sizeOfFirmware) }},
		{"just not too many statements", api.OK, func(p *api.Program) { p.Funcs[1].Body = many(4000 - sizeOfFirmware) }},
		{"nested too deep", api.ErrLong, func(p *api.Program) { p.Funcs[1].Body = []api.Stmt{nested(61)} }},
		{"just not nested too deep", api.OK, func(p *api.Program) { p.Funcs[1].Body = []api.Stmt{nested(60)} }},
	}
}

// many is n statements.
func many(n int) []api.Stmt {
	return slices.Repeat([]api.Stmt{plain(api.StLevel, 1)}, n)
}

// nested is sections in each other.
func nested(deep int) api.Stmt {
	if deep == 1 {
		return atomic([]string{"x"})
	}
	return atomic([]string{"x"}, nested(deep-1))
}

// TestP61Edges: each thing that a program must keep to, just kept and just not
// kept.
func TestP61Edges(t *testing.T) {
	checkProgram(t, "the firmware", firmware(), api.OK)
	for _, x := range edges() {
		p := firmware()
		x.change(&p)
		checkProgram(t, x.name, p, x.want)
	}
}

// TestP61Several: of several errors the first one counts: what is too large
// ahead of what is not valid, wherever it stands.
func TestP61Several(t *testing.T) {
	both := func(p *api.Program, x, y changed) (fits bool) {
		defer func() { fits = recover() == nil }()
		x.change(p)
		y.change(p)
		return true
	}
	for i, x := range edges() {
		for _, y := range edges()[i:] {
			p := firmware()
			if both(&p, x, y) {
				checkProgram(t, x.name+", and "+y.name, p, expected(p))
			}
		}
	}
	wrong := api.Stmt{Kind: 11}
	for _, at := range []int{0, 2000, 3999} {
		l := many(4000)
		l[at] = wrong
		checkProgram(t, "4000, one wrong", with(l...), api.ErrArg)
		checkProgram(t, "4001, one wrong", with(append(l, wrong)...), api.ErrLong)
	}
	checkStmt(t, "a wrong one ahead of what is deep", when(num(1), []api.Stmt{wrong, nested(60)}, nil), api.ErrLong)
	checkStmt(t, "a wrong one behind what is deep", when(num(1), []api.Stmt{nested(60)}, []api.Stmt{wrong}), api.ErrLong)
	checkStmt(t, "what may not have a Then has a deep one", api.Stmt{Kind: api.StLevel, Then: []api.Stmt{nested(60)}}, api.ErrLong)
	checkStmt(t, "what may not have a Then has one", api.Stmt{Kind: api.StLevel, Then: []api.Stmt{nested(59)}}, api.ErrArg)
	checkExpr(t, "what may not have Args has deep ones", api.Expr{Kind: api.ExNum, Args: one(negated(60))}, api.ErrLong)
	checkExpr(t, "what may not have Args has some", api.Expr{Kind: api.ExNum, Args: one(negated(59))}, api.ErrArg)
	checkExpr(t, "a call with 4000 Args", call("f", slices.Repeat(one(num(1)), 4000)...), api.ErrLong)
	checkExpr(t, "a call with 3999 Args", call("f", slices.Repeat(one(num(1)), 3999)...), api.ErrArg)
	checkExpr(t, "no kind, a wrong operator at the end", bin(1, api.Expr{}, un(4, negated(59))), api.ErrLong)
}

// TestP61Numbers: the numbers of enable, disable and level, and lines.
func TestP61Numbers(t *testing.T) {
	for _, n := range []int{math.MinInt, -1, 0, 1, 14, 15, 16, 17, 30, 31, 32, 33, 64, 1 << 32, math.MaxInt} {
		enable, level := api.OK, api.OK
		if n < 0 || n > 31 {
			enable = api.ErrArg
		}
		if n < 0 || n > 15 {
			level = api.ErrArg
		}
		checkStmt(t, "enable", plain(api.StEnable, n), enable)
		checkStmt(t, "disable", plain(api.StDisable, n), enable)
		checkStmt(t, "level", plain(api.StLevel, n), level)
	}
	for _, s := range everyStatement() {
		for _, line := range []int{0, 1, 65536, math.MaxInt} {
			s.Line = line
			checkStmt(t, "a line", s, api.OK)
		}
		for _, line := range []int{-1, math.MinInt} {
			s.Line = line
			checkStmt(t, "a line below 0", s, api.ErrArg)
			checkStmt(t, "a line below 0 within", while(num(1), s), api.ErrArg)
		}
	}
}

// TestP61Missing: a field that a statement must have is missing, or is there
// too often.
func TestP61Missing(t *testing.T) {
	x, f := num(1), call("f")
	for _, s := range []api.Stmt{let("x", 1, x), set("x", x), setAt("x", x, x), calls("f"), when(x, nil, nil), while(x), returns(x)} {
		checkStmt(t, "an Expr", s, api.OK)
		for _, l := range [][]api.Expr{nil, {}, {f, f}, {x, x}, {f, f, f}, {{}}} {
			s.Expr = l
			checkStmt(t, "no Expr, or several", s, api.ErrArg)
		}
	}
	two := setAt("x", x, x)
	two.Index = []api.Expr{x, x}
	checkStmt(t, "two indexes", two, api.ErrArg)
	checkStmt(t, "a wrong index", setAt("x", api.Expr{}, x), api.ErrArg)
	checkStmt(t, "a section without Names", atomic(nil), api.ErrArg)
	checkStmt(t, "a section with empty Names", atomic([]string{}, set("x", x)), api.ErrArg)
	checkStmt(t, "a section with many Names", atomic(slices.Repeat([]string{"x"}, 5000)), api.OK)
	for _, ty := range []int{-1, 0, 5, 6, math.MaxInt, math.MinInt} {
		checkStmt(t, "a let of no type", let("x", ty, x), api.ErrArg)
		checkExpr(t, "a cast to no type", cast(ty, x), api.ErrArg)
	}
}

// TestP61Examples: the examples of the chapter.
func TestP61Examples(t *testing.T) {
	checkExpr(t, "ExNum with a Name", api.Expr{Kind: api.ExNum, N: 1, Name: "x"}, api.ErrArg)
	checkExpr(t, "a cast to 5", cast(5, num(1)), api.ErrArg)
}

// TestP61Names: each Name of a program in turn is none.
func TestP61Names(t *testing.T) {
	for _, name := range wrongNames() {
		p := firmware()
		for _, at := range []*string{
			&p.Globals[0].Name, &p.Globals[3].Name, &p.Gates[0].Name, &p.Gates[2].Name, &p.Funcs[0].Name, &p.Funcs[1].Name,
			&p.Funcs[0].Params[0].Name, &p.Funcs[0].Params[1].Name, &p.Funcs[0].Body[0].Expr[0].Args[1].Name, &p.Funcs[2].Body[2].Name,
			&p.Funcs[2].Body[3].Then[0].Names[0], &p.Funcs[2].Body[3].Then[0].Names[1], &p.Funcs[2].Body[3].Then[0].Then[0].Name,
			&p.Funcs[2].Body[3].Then[0].Then[0].Index[0].Args[0].Name, &p.Funcs[2].Body[3].Then[1].Expr[0].Name, &p.Funcs[4].Body[0].Expr[0].Args[1].Name,
		} {
			before := *at
			*at = name
			checkProgram(t, name, p, api.ErrArg)
			*at = "_" + strings.Repeat("long_0", len(name))
			checkProgram(t, "long", p, api.OK)
			*at = before
		}
		checkProgram(t, "the firmware", p, api.OK)
	}
}
