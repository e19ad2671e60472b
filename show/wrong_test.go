package show_test

import (
	"math"
	"slices"
	"strings"
	"testing"

	"lamplighter/api"
	"lamplighter/ast"
	"lamplighter/show"
)

// refusedExpr checks the error of an expression wherever one may be, and that
// ast has the same one.
func refusedExpr(t *testing.T, name string, e api.Expr, want api.Errno) {
	t.Helper()
	if err := ast.CheckExpr(e); err != want {
		t.Errorf("%s: ast has the error %d; want %d", name, err, want)
	}
	exactExpr(t, name, e, want)
	exactStmt(t, name+", in a return", returns(e), want)
	exactStmt(t, name+", in an Index", setAt("x", e, num(1)), want)
	exactStmt(t, name+", in an If", when(e, nil, nil), want)
	exactExpr(t, name+", in a sum", bin(api.BinAdd, num(1), e), want)
	exactExpr(t, name+", in a call", call("f", num(1), un(api.UnNeg, e)), want)
}

func refusedStmt(t *testing.T, name string, s api.Stmt, want api.Errno) {
	t.Helper()
	if err := ast.CheckStmt(s); err != want {
		t.Errorf("%s: ast has the error %d; want %d", name, err, want)
	}
	exactStmt(t, name, s, want)
	exactStmt(t, name+", in a Then", when(num(1), []api.Stmt{plain(api.StLevel, 1), s}, nil), want)
	exactStmt(t, name+", in an Else", when(num(1), nil, []api.Stmt{s, plain(api.StLevel, 1)}), want)
	exactStmt(t, name+", in a section", atomic([]string{"x"}, while(num(1), s)), want)
	exactProgram(t, name+", in a handler", api.Program{Stack: 1, Funcs: []api.Decl{begins(), on(1, 1, s)}}, want)
}

func refusedProgram(t *testing.T, name string, p api.Program, want api.Errno) {
	t.Helper()
	if err := ast.Check(p); err != want {
		t.Errorf("%s: ast has the error %d; want %d", name, err, want)
	}
	exactProgram(t, name, p, want)
}

// wrongNames is what is no name.
func wrongNames() []string {
	return append(strings.Fields("stack port read write both func main on prio if else while return enable disable level atomic u8 u16 u32 i32"),
		"", " ", "9", "9a", "A", "aB", "a b", " a", "a\n", "a;", "a\x00", "é", "a(", "x[1]", "x+1", "//")
}

// TestP81WrongExpressions: each thing that makes an expression not valid.
func TestP81WrongExpressions(t *testing.T) {
	x, two := named("x"), []api.Expr{num(1), num(2)}
	for _, kind := range []int{math.MinInt, -1, 0, 8, 9, 255, 1 << 32, 1<<32 + 1, math.MaxInt} {
		for _, e := range append(everyExpression(), api.Expr{}) {
			e.Kind = kind
			refusedExpr(t, "no Kind", e, api.ErrArg)
		}
	}
	for _, op := range []int{math.MinInt, -1, 0, 4, 5, 6, 20, 1 << 32, 1<<32 + 1, math.MaxInt} {
		refusedExpr(t, "an operator on one word", un(op, x), api.ErrArg)
	}
	for _, op := range []int{math.MinInt, -1, 0, 6, 7, 13, 18, 19, 22, 23, 300, 1 << 32, 1<<32 + 1, math.MaxInt} {
		refusedExpr(t, "an operator on two words", bin(op, x, x), api.ErrArg)
	}
	for _, ty := range []int{math.MinInt, -1, 0, 5, 6, 1<<32 + 1, math.MaxInt} {
		refusedExpr(t, "a type", cast(ty, x), api.ErrArg)
	}
	for _, name := range wrongNames() {
		refusedExpr(t, name, named(name), api.ErrArg)
		refusedExpr(t, name, index(name, x), api.ErrArg)
		refusedExpr(t, name, call(name), api.ErrArg)
	}
	for name, e := range map[string]api.Expr{
		"a number with a Name": {Kind: api.ExNum, Name: "x"}, "a number with Args": {Kind: api.ExNum, Args: one(x)}, "a number with an Op": {Kind: api.ExNum, Op: 1}, "a number with a Type": {Kind: api.ExNum, Type: 1},
		"a name with a number": {Kind: api.ExVar, Name: "x", N: 1}, "a name with Args": {Kind: api.ExVar, Name: "x", Args: one(x)}, "a name with an Op": {Kind: api.ExVar, Name: "x", Op: 1},
		"an index without Args": {Kind: api.ExIndex, Name: "x"}, "an index with two": {Kind: api.ExIndex, Name: "x", Args: two}, "an index with a number": {Kind: api.ExIndex, Name: "x", Args: one(x), N: 1},
		"nine Args": call("f", slices.Repeat(two, 5)[:9]...), "a call with an Op": {Kind: api.ExCall, Name: "f", Op: 1}, "a call with a Type": {Kind: api.ExCall, Name: "f", Type: 1},
		"no operand": {Kind: api.ExUn, Op: 1}, "two operands of one": {Kind: api.ExUn, Op: 1, Args: two}, "a name of an operator": {Kind: api.ExUn, Op: 1, Args: one(x), Name: "x"},
		"no operands": {Kind: api.ExBin, Op: 1}, "one operand of two": {Kind: api.ExBin, Op: 1, Args: one(x)}, "three operands": {Kind: api.ExBin, Op: 1, Args: []api.Expr{x, x, x}}, "a number of an operator": {Kind: api.ExBin, Op: 1, Args: two, N: 1},
		"a cast of nothing": {Kind: api.ExCast, Type: 1}, "a cast of two": {Kind: api.ExCast, Type: 1, Args: two}, "a cast with a Name": {Kind: api.ExCast, Type: 1, Args: one(x), Name: "u8"}, "a cast with an Op": {Kind: api.ExCast, Type: 1, Args: one(x), Op: 1},
	} {
		refusedExpr(t, name, e, api.ErrArg)
	}
}

// TestP81WrongStatements: each thing that makes a statement not valid.
func TestP81WrongStatements(t *testing.T) {
	x, f := named("x"), call("f")
	for _, kind := range []int{math.MinInt, -1, 0, 11, 12, 255, 1 << 32, 1<<32 + 1, math.MaxInt} {
		for _, s := range append(everyStatement(), api.Stmt{}) {
			s.Kind = kind
			refusedStmt(t, "no Kind", s, api.ErrArg)
		}
	}
	for _, n := range []int{math.MinInt, -1, 32, 33, 1 << 32, math.MaxInt} {
		refusedStmt(t, "enable", plain(api.StEnable, n), api.ErrArg)
		refusedStmt(t, "disable", plain(api.StDisable, n), api.ErrArg)
	}
	for _, n := range []int{math.MinInt, -1, 16, 31, 1 << 32, math.MaxInt} {
		refusedStmt(t, "level", plain(api.StLevel, n), api.ErrArg)
	}
	for _, name := range wrongNames() {
		refusedStmt(t, name, let(name, 1, x), api.ErrArg)
		refusedStmt(t, name, set(name, x), api.ErrArg)
		refusedStmt(t, name, setAt(name, x, x), api.ErrArg)
		refusedStmt(t, name, atomic([]string{name}), api.ErrArg)
		refusedStmt(t, name, atomic([]string{"x", name, "y"}), api.ErrArg)
	}
	for _, ty := range []int{math.MinInt, -1, 0, 5, math.MaxInt} {
		refusedStmt(t, "a let of no type", let("x", ty, x), api.ErrArg)
	}
	for _, s := range everyStatement() {
		s.Line = -1
		refusedStmt(t, "a Line below 0", s, api.ErrArg)
		s.Line = math.MinInt
		refusedStmt(t, "a Line far below 0", s, api.ErrArg)
	}
	for _, s := range []api.Stmt{let("x", 1, x), set("x", x), setAt("x", x, x), calls("f"), when(x, nil, nil), while(x), returns(x)} {
		for _, l := range [][]api.Expr{nil, {}, {f, f}, {x, x, x}, {{}}} {
			s.Expr = l
			refusedStmt(t, "no Expr, or several", s, api.ErrArg)
		}
	}
	refusedStmt(t, "a section without Names", atomic(nil), api.ErrArg)
	refusedStmt(t, "two indexes", api.Stmt{Kind: api.StSet, Name: "x", Index: []api.Expr{x, x}, Expr: one(x)}, api.ErrArg)
	for _, e := range everyExpression() {
		if e.Kind != api.ExCall {
			refusedStmt(t, "called: "+exprText(e), api.Stmt{Kind: api.StCall, Expr: one(e)}, api.ErrArg)
		}
	}
}

// TestP81WrongFields: what a statement of another kind has.
func TestP81WrongFields(t *testing.T) {
	x := named("x")
	for _, field := range []struct {
		name   string
		kinds  []int // those that have it
		change func(s *api.Stmt)
	}{
		{"Type", []int{1}, func(s *api.Stmt) { s.Type = 1 }},
		{"N", []int{7, 8, 9}, func(s *api.Stmt) { s.N = 1 }},
		{"Name", []int{1, 2}, func(s *api.Stmt) { s.Name = "x" }},
		{"Names", []int{10}, func(s *api.Stmt) { s.Names = []string{"x"} }},
		{"Index", []int{2}, func(s *api.Stmt) { s.Index = one(x) }},
		{"Expr", []int{1, 2, 3, 4, 5, 6}, func(s *api.Stmt) { s.Expr = one(call("f")) }},
		{"Then", []int{4, 5, 10}, func(s *api.Stmt) { s.Then = many(1) }},
		{"Else", []int{4}, func(s *api.Stmt) { s.Else = many(1) }},
	} {
		for _, s := range everyStatement() {
			if !slices.Contains(field.kinds, s.Kind) {
				field.change(&s)
				refusedStmt(t, "a statement with "+field.name, s, api.ErrArg)
			}
		}
	}
}

// wrongs is programs, each with one thing that makes them not valid, in each of
// their parts.
func wrongs() map[string]func(p *api.Program) {
	params := slices.Repeat([]api.Param{{Name: "x", Type: api.TyU8}}, 9)
	return map[string]func(p *api.Program){
		"Stack 0":                   func(p *api.Program) { p.Stack = 0 },
		"Stack -1":                  func(p *api.Program) { p.Stack = -1 },
		"Stack 65537":               func(p *api.Program) { p.Stack = 65537 },
		"a scalar with two words":   func(p *api.Program) { p.Globals[0].Init = []uint32{1, 2} },
		"Len -1":                    func(p *api.Program) { p.Globals[2].Len = -1 },
		"Len 4097":                  func(p *api.Program) { p.Globals[1].Len = 4097 },
		"more words than Len":       func(p *api.Program) { p.Globals[3].Init = []uint32{1, 2, 3} },
		"a global of Type 0":        func(p *api.Program) { p.Globals[3].Type = 0 },
		"a global of Type 5":        func(p *api.Program) { p.Globals[0].Type = 5 },
		"a global of Type -1":       func(p *api.Program) { p.Globals[0].Type = -1 },
		"an empty global":           func(p *api.Program) { p.Globals = append(p.Globals, api.Global{}) },
		"a global on line -1":       func(p *api.Program) { p.Globals[1].Line = -1 },
		"a gate with neither":       func(p *api.Program) { p.Gates[0].Read = false },
		"an empty gate":             func(p *api.Program) { p.Gates = append(p.Gates, api.Gate{}) },
		"a gate on line -1":         func(p *api.Program) { p.Gates[1].Line = -1 },
		"9 Params":                  func(p *api.Program) { p.Funcs[0].Params = params },
		"a Param of Type 0":         func(p *api.Program) { p.Funcs[0].Params[1].Type = 0 },
		"a Param of Type 5":         func(p *api.Program) { p.Funcs[0].Params[0].Type = 5 },
		"a function without a Name": func(p *api.Program) { p.Funcs[1].Name = "" },
		"a function with On":        func(p *api.Program) { p.Funcs[1].On = 1 },
		"a function with Prio":      func(p *api.Program) { p.Funcs[1].Prio = 1 },
		"a function on line -1":     func(p *api.Program) { p.Funcs[1].Line = -1 },
		"main with a Name":          func(p *api.Program) { p.Funcs[2].Name = "f" },
		"main with a Param":         func(p *api.Program) { p.Funcs[2].Params = params[:1] },
		"main with On":              func(p *api.Program) { p.Funcs[2].On = 1 },
		"main with Prio":            func(p *api.Program) { p.Funcs[2].Prio = 1 },
		"a handler with a Name":     func(p *api.Program) { p.Funcs[3].Name = "f" },
		"a handler with a Param":    func(p *api.Program) { p.Funcs[3].Params = params[:1] },
		"On -1":                     func(p *api.Program) { p.Funcs[3].On = -1 },
		"On 32":                     func(p *api.Program) { p.Funcs[3].On = 32 },
		"Prio 0":                    func(p *api.Program) { p.Funcs[3].Prio = 0 },
		"Prio -1":                   func(p *api.Program) { p.Funcs[3].Prio = -1 },
		"Prio 16":                   func(p *api.Program) { p.Funcs[3].Prio = 16 },
		"an empty function":         func(p *api.Program) { p.Funcs = append(p.Funcs, api.Decl{}) },
		"a function of Kind 4":      func(p *api.Program) { p.Funcs[2].Kind = 4 },
		"a function of Kind -1":     func(p *api.Program) { p.Funcs[2].Kind = -1 },
		"a statement":               func(p *api.Program) { p.Funcs[2].Body[0].N = 16 },
		"a statement within":        func(p *api.Program) { p.Funcs[2].Body[3].Then[0].Names = nil },
		"a statement in an Else":    func(p *api.Program) { p.Funcs[0].Body[0].Else[0].Kind = 11 },
		"an expression":             func(p *api.Program) { p.Funcs[3].Body[0].Expr[0].Op = api.BinSar },
		"an expression at the end":  func(p *api.Program) { p.Funcs[4].Body[2].Expr[0].Name = "x" },
		"an expression in an Index": func(p *api.Program) { p.Funcs[2].Body[3].Then[0].Then[0].Index[0].Args = nil },
		"nothing":                   func(p *api.Program) { *p = api.Program{Funcs: p.Funcs, Gates: p.Gates, Globals: p.Globals} },
	}
}

// TestP81WrongPrograms: each thing that makes a program not valid.
func TestP81WrongPrograms(t *testing.T) {
	refusedProgram(t, "the firmware", firmware(), api.OK)
	refusedProgram(t, "no program", api.Program{}, api.ErrArg)
	for name, change := range wrongs() {
		p := firmware()
		change(&p)
		refusedProgram(t, name, p, api.ErrArg)
	}
	for _, name := range wrongNames() {
		p := firmware()
		for _, at := range []*string{&p.Globals[0].Name, &p.Globals[3].Name, &p.Gates[0].Name, &p.Gates[2].Name, &p.Funcs[0].Name, &p.Funcs[1].Name, &p.Funcs[0].Params[0].Name, &p.Funcs[0].Params[1].Name, &p.Funcs[2].Body[3].Then[0].Names[1]} {
			before := *at
			*at = name
			refusedProgram(t, name, p, api.ErrArg)
			*at = before
		}
		refusedProgram(t, "the firmware", p, api.OK)
	}
}

// TestP81Several: several of them at once; what is too great comes ahead of
// what is not valid, wherever it stands.
func TestP81Several(t *testing.T) {
	for first, change := range wrongs() {
		for second, other := range wrongs() {
			p := firmware()
			other(&p)
			change(&p)
			refusedProgram(t, first+", and "+second, p, api.ErrArg)
		}
		p := firmware()
		change(&p)
		p.Funcs = append(p.Funcs, begins(many(4000)...))
		refusedProgram(t, first+", too many", p, api.ErrLong)
	}
	deep := num(1)
	for range 59 {
		deep = un(api.UnNeg, deep)
	}
	wrong := api.Stmt{Kind: 11}
	exactExpr(t, "deep, and no Kind", bin(api.BinAdd, api.Expr{}, deep), api.ErrLong)
	exactExpr(t, "deep, and no operator", un(4, deep), api.ErrLong)
	exactExpr(t, "not so deep, and no operator", un(4, deep.Args[0]), api.ErrArg)
	exactStmt(t, "deep, and no Kind", when(deep, []api.Stmt{wrong}, nil), api.ErrLong)
	exactStmt(t, "no Kind, and deep", when(num(1), []api.Stmt{wrong}, []api.Stmt{returns(deep)}), api.ErrLong)
	for n, want := range map[int]api.Errno{4000: api.ErrArg, 4001: api.ErrLong} {
		for _, at := range []int{0, n / 2, n - 1} {
			l := many(n)
			l[at] = wrong
			exactProgram(t, "many, one wrong", with(l...), want)
		}
	}
}

// TestP81Varied: one thing of a tree is other than in a valid one: the error of
// ast and an empty text, or the text of what it is now, which is parsed back.
func TestP81Varied(t *testing.T) {
	count := map[api.Errno]int{}
	for _, e := range everyExpression() {
		vary(&e, func(way string) {
			err := ast.CheckExpr(e)
			count[err]++
			if exactExpr(t, way, e, err); err == api.OK {
				shows(t, e, exprText(e))
			}
		})
	}
	for _, s := range everyStatement() {
		vary(&s, func(way string) {
			err := ast.CheckStmt(s)
			count[err]++
			if exactStmt(t, way, s, err); err == api.OK {
				showsStmt(t, s, stmtText(s))
			}
		})
	}
	p := firmware()
	vary(&p, func(way string) {
		err := ast.Check(p)
		count[err]++
		if exactProgram(t, way, p, err); err == api.OK {
			showsProgram(t, p, programText(p))
		}
	})
	if count[api.OK] < 2000 || count[api.ErrArg] < 8000 {
		t.Errorf("%v", count)
	}
}

// TestT6NoPanic: trees with anything in them are refused without a panic.
func TestT6NoPanic(t *testing.T) {
	r := numbers(10)
	fields := func() api.Expr {
		e := api.Expr{Kind: r.below(10) - 1, Op: r.below(25) - 2, Type: r.below(7) - 1, Name: r.one("", "x", "if")}
		return e
	}
	for range 3000 {
		e := fields()
		for range r.below(4) {
			e.Args = append(e.Args, fields())
		}
		s := api.Stmt{Kind: r.below(13) - 1, N: r.below(40) - 2, Type: r.below(7) - 1, Name: r.one("", "x", "if"), Names: []string{"", "x"}[:r.below(3)]}
		s.Expr = []api.Expr{e, e}[:r.below(3)]
		s.Index = []api.Expr{e, e}[:r.below(3)]
		s.Then = []api.Stmt{s, s}[:r.below(3)]
		d := api.Decl{Kind: r.below(6) - 1, Body: []api.Stmt{s, s}[:r.below(3)], On: r.below(40) - 2, Prio: r.below(20) - 2}
		p := api.Program{Stack: r.below(3), Funcs: []api.Decl{d}, Gates: make([]api.Gate, r.below(2)), Globals: make([]api.Global, r.below(2))}
		exactExpr(t, "anything", e, ast.CheckExpr(e))
		exactStmt(t, "anything", s, ast.CheckStmt(s))
		exactProgram(t, "anything", p, ast.Check(p))
		show.Sign(e.Op)
		show.Type(e.Type)
	}
}
