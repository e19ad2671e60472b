package parse_test

import (
	"fmt"
	"slices"
	"strconv"
	"strings"
	"testing"

	"lamplighter/api"
	"lamplighter/ast"
	"lamplighter/parse"
)

var (
	tooGreat = api.Fault{Err: api.ErrLong}
	notValid = api.Fault{Err: api.ErrSyntax}
)

// syntax is an ErrSyntax at a position.
func syntax(line, column int) api.Fault {
	return api.Fault{Err: api.ErrSyntax, Line: line, Column: column}
}

// short is the beginning of a value's text.
func short(v any) string {
	return fmt.Sprintf("%.300s", fmt.Sprintf("%+v", v))
}

// gives checks what a source is parsed into, with its Lines.
func gives(t *testing.T, s string, want api.Program) {
	t.Helper()
	got, f := parse.Parse(s)
	if f != (api.Fault{}) || !ast.Same(got, want) || !slices.Equal(linesOf(got), linesOf(want)) {
		t.Fatalf("Parse(%.300q) = %s, %+v; want %s", s, short(got), f, short(want))
	}
}

// givesExpr checks what an expression is parsed into.
func givesExpr(t *testing.T, s string, want api.Expr) {
	t.Helper()
	if got, f := parse.Expr(s); f != (api.Fault{}) || !ast.SameExpr(got, want) {
		t.Fatalf("Expr(%.300q) = %s, %+v; want %s", s, short(got), f, short(want))
	}
}

// givesStmts checks what statements are parsed into, with their Lines.
func givesStmts(t *testing.T, s string, want ...api.Stmt) {
	t.Helper()
	got, f := parse.Stmts(s)
	if f != (api.Fault{}) || !slices.EqualFunc(got, want, ast.SameStmt) || !slices.Equal(linesOfStmts(got), linesOfStmts(want)) {
		t.Fatalf("Stmts(%.300q) = %s, %+v; want %s", s, short(got), f, short(want))
	}
}

// fails checks the fault of a program, and that nothing else is returned.
func fails(t *testing.T, s string, want api.Fault) {
	t.Helper()
	got, f := parse.Parse(s)
	if f != want || got.Stack != 0 || got.Globals != nil || got.Gates != nil || got.Funcs != nil {
		t.Errorf("Parse(%.300q) = %s, %+v; want %+v", s, short(got), f, want)
	}
}

func failsExpr(t *testing.T, s string, want api.Fault) {
	t.Helper()
	if got, f := parse.Expr(s); f != want || !ast.SameExpr(got, api.Expr{}) {
		t.Errorf("Expr(%.300q) = %s, %+v; want %+v", s, short(got), f, want)
	}
}

func failsStmts(t *testing.T, s string, want api.Fault) {
	t.Helper()
	if got, f := parse.Stmts(s); f != want || got != nil {
		t.Errorf("Stmts(%.300q) = %s, %+v; want %+v", s, short(got), f, want)
	}
}

// at gives statements their Lines: the same one to all that is in them.
func at(line int, s api.Stmt) api.Stmt {
	s.Line = line
	return s
}

// TestP71Source: a source with all that a source may have.
func TestP71Source(t *testing.T) {
	source := `// a lamp that is lit in the evening
stack 64;
u8 lit = 1;
	u16 hours[0x18] = 0,0x0f,65535; // since when
u32 since; i32 _last_1[2];
port read dark;
port
  write led;port both lamp;

func dim(u32 by, i32 most) {
	if (by >= most) { return by-most; } else { return 0; }
} func idle() {}
main{ level 15;	enable 31;
	u16 n = -u8(hours[lit]);
	while(!dark)
	{ atomic ( lit,hours ) { hours[n % 24] = dim(1, n^2); n = ~n; }
	idle(); dim(2,255); }

disable 0; }
on 0 prio 1 { led = lit << 3; }
on 31 prio 0xf { if (dark==hours[3]) { i32 lit = 0xffffffff; } }//`
	n, lit, dark := named("n"), named("lit"), named("dark")
	by, most := named("by"), named("most")
	gives(t, source, api.Program{
		Stack: 64,
		Globals: []api.Global{
			{Type: api.TyU8, Name: "lit", Init: []uint32{1}, Line: 3},
			{Type: api.TyU16, Name: "hours", Len: 24, Init: []uint32{0, 15, 65535}, Line: 4},
			{Type: api.TyU32, Name: "since", Line: 5},
			{Type: api.TyI32, Name: "_last_1", Len: 2, Line: 5},
		},
		Gates: []api.Gate{
			{Name: "dark", Read: true, Line: 6},
			{Name: "led", Write: true, Line: 7},
			{Name: "lamp", Read: true, Write: true, Line: 8},
		},
		Funcs: []api.Decl{
			{Kind: api.KindFunc, Name: "dim", Line: 10, Params: []api.Param{{Name: "by", Type: api.TyU32}, {Name: "most", Type: api.TyI32}}, Body: []api.Stmt{
				at(11, when(bin(api.ExGe, by, most), []api.Stmt{at(11, returns(bin(api.BinSub, by, most)))}, []api.Stmt{at(11, returns(num(0)))})),
			}},
			{Kind: api.KindFunc, Name: "idle", Line: 12},
			{Kind: api.KindMain, Line: 13, Body: []api.Stmt{
				at(13, plain(api.StLevel, 15)), at(13, plain(api.StEnable, 31)),
				at(14, let("n", api.TyU16, un(api.UnNeg, cast(api.TyU8, index("hours", lit))))),
				at(15, while(un(api.UnZero, dark),
					at(16, atomic([]string{"lit", "hours"},
						at(16, setAt("hours", bin(api.BinRem, n, num(24)), call("dim", num(1), bin(api.BinXor, n, num(2))))),
						at(16, set("n", un(api.UnNot, n))))),
					at(17, calls("idle")), at(17, calls("dim", num(2), num(255))))),
				at(19, plain(api.StDisable, 0)),
			}},
			{Kind: api.KindOn, On: 0, Prio: 1, Line: 20, Body: []api.Stmt{at(20, set("led", bin(api.BinShl, lit, num(3))))}},
			{Kind: api.KindOn, On: 31, Prio: 15, Line: 21, Body: []api.Stmt{
				at(21, when(bin(api.BinEq, dark, index("hours", num(3))), []api.Stmt{at(21, let("lit", api.TyI32, num(4294967295)))}, nil)),
			}},
		},
	})
}

// TestP71Examples: the examples of the chapter.
func TestP71Examples(t *testing.T) {
	givesExpr(t, "1+2*3<x", bin(api.BinLt, bin(api.BinAdd, num(1), bin(api.BinMul, num(2), num(3))), named("x")))
	failsExpr(t, "1+", syntax(1, 3))
	failsStmts(t, "x = ;", syntax(1, 5))
}

// TestP71Declarations: each form of a declaration alone, with each of its parts
// and without it.
func TestP71Declarations(t *testing.T) {
	types := []string{"u8", "u16", "u32", "i32"}
	for i, ty := range types {
		for text, g := range map[string]api.Global{
			" x;":               global(i+1, "x", 0),
			" x = 7;":           global(i+1, "x", 0, 7),
			" x[3];":            global(i+1, "x", 3),
			" x[3]=4294967295;": global(i+1, "x", 3, 4294967295),
			" x[3] = 1,2,3;":    global(i+1, "x", 3, 1, 2, 3),
		} {
			g.Line = 2
			gives(t, "stack 9;\n"+ty+text, api.Program{Stack: 9, Globals: []api.Global{g}})
		}
	}
	for text, g := range map[string]api.Gate{"read": gate("x", true, false), "write": gate("x", false, true), "both": gate("x", true, true)} {
		g.Line = 1
		gives(t, "stack 9; port "+text+" x;", api.Program{Stack: 9, Gates: []api.Gate{g}})
	}
	for text, d := range map[string]api.Decl{
		"func f(){}":              function("f", nil),
		"func f(u8 x){}":          function("f", []api.Param{{Name: "x", Type: api.TyU8}}),
		"func f(i32 x, u16 y) {}": function("f", []api.Param{{Name: "x", Type: api.TyI32}, {Name: "y", Type: api.TyU16}}),
		"func f() { f(); }":       function("f", nil, at(1, calls("f"))),
		"main {}":                 begins(),
		"main { level 1; }":       begins(at(1, plain(api.StLevel, 1))),
		"on 3 prio 4 {}":          on(3, 4),
		"on 3 prio 4 { level 1;}": on(3, 4, at(1, plain(api.StLevel, 1))),
	} {
		d.Line = 1
		gives(t, "stack 9;"+text, api.Program{Stack: 9, Funcs: []api.Decl{d}})
	}
}

// TestP71Order: declarations of each kind may be mixed; of each kind they are
// in the order of the text.
func TestP71Order(t *testing.T) {
	gives(t, "stack 1; main {}\nport read a;\nu8 b; func c() {}\nport write a; main {}\nu16 b; on 0 prio 1 {}\nfunc c() {} u8 d;", api.Program{
		Stack: 1,
		Globals: []api.Global{
			{Name: "b", Type: api.TyU8, Line: 3}, {Name: "b", Type: api.TyU16, Line: 5}, {Name: "d", Type: api.TyU8, Line: 6},
		},
		Gates: []api.Gate{{Name: "a", Read: true, Line: 2}, {Name: "a", Write: true, Line: 4}},
		Funcs: []api.Decl{
			{Kind: api.KindMain, Line: 1}, {Kind: api.KindFunc, Name: "c", Line: 3}, {Kind: api.KindMain, Line: 4},
			{Kind: api.KindOn, On: 0, Prio: 1, Line: 5}, {Kind: api.KindFunc, Name: "c", Line: 6},
		},
	})
}

// TestP71Statements: each form of a statement, with each of its parts and
// without it.
func TestP71Statements(t *testing.T) {
	x, one := named("x"), at(1, plain(api.StLevel, 1))
	for text, s := range map[string]api.Stmt{
		"u8 x = x;": let("x", api.TyU8, x), "u16 x = x;": let("x", api.TyU16, x), "u32 x = x;": let("x", api.TyU32, x), "i32 x = x;": let("x", api.TyI32, x),
		"x = x+x;": set("x", bin(api.BinAdd, x, x)), "x[x] = 1;": setAt("x", x, num(1)), "x[x[x]]=x[1];": setAt("x", index("x", x), index("x", num(1))),
		"x();": calls("x"), "x(x);": calls("x", x), "x(1,x,-x);": calls("x", num(1), x, un(api.UnNeg, x)),
		"if (x) {}": when(x, nil, nil), "if (x) { level 1; }": when(x, []api.Stmt{one}, nil),
		"if (x) {} else {}": when(x, nil, nil), "if(x){}else{level 1;}": when(x, nil, []api.Stmt{one}),
		"if (x) { level 1; } else { level 1; level 1; }": when(x, []api.Stmt{one}, []api.Stmt{one, one}),
		"while (x) {}":                         while(x),
		"while (x) { level 1; while (1) {} }":  while(x, one, at(1, while(num(1)))),
		"return x;":                            returns(x),
		"return (x);":                          returns(x),
		"enable 5;":                            plain(api.StEnable, 5),
		"disable 5;":                           plain(api.StDisable, 5),
		"level 5;":                             plain(api.StLevel, 5),
		"atomic (x) {}":                        atomic([]string{"x"}),
		"atomic(x,y,x){level 1;atomic(z){}}":   atomic([]string{"x", "y", "x"}, one, at(1, atomic([]string{"z"}))),
		"if (1) { if (2) {} } else {}":         when(num(1), []api.Stmt{at(1, when(num(2), nil, nil))}, nil),
		"if (1) { if (2) {} else { level 1;}}": when(num(1), []api.Stmt{at(1, when(num(2), nil, []api.Stmt{one}))}, nil),
	} {
		givesStmts(t, text, at(1, s))
		givesStmts(t, "\nlevel 1;"+text+"\n"+text, at(2, plain(api.StLevel, 1)), moved(s, 2), moved(s, 3))
	}
	givesStmts(t, "")
	givesStmts(t, " // level 1;\n\n")
}

// moved is a statement with all that is in it on one line.
func moved(s api.Stmt, line int) api.Stmt {
	s.Line = line
	s.Then, s.Else = slices.Clone(s.Then), slices.Clone(s.Else)
	for i := range s.Then {
		s.Then[i] = moved(s.Then[i], line)
	}
	for i := range s.Else {
		s.Else[i] = moved(s.Else[i], line)
	}
	return s
}

// TestP71Lines: the Line of all that has one is that of its first token.
func TestP71Lines(t *testing.T) {
	gives(t, "\nstack\n1\n;\nu8\nx\n=\n1\n;\nport\nread\ny\n;\nfunc\nf\n(\n)\n{\nx\n=\n1\n;\n}\nmain\n{\nif\n(\n1\n)\n{\nf\n(\n)\n;\n}\nelse\n{\nreturn\n1\n;\n}\n}\non\n1\nprio\n2\n{\nu8\nz\n=\n1\n;\nenable\n1\n;\n}", api.Program{
		Stack:   1,
		Globals: []api.Global{{Type: api.TyU8, Name: "x", Init: []uint32{1}, Line: 5}},
		Gates:   []api.Gate{{Name: "y", Read: true, Line: 10}},
		Funcs: []api.Decl{
			{Kind: api.KindFunc, Name: "f", Line: 14, Body: []api.Stmt{at(19, set("x", num(1)))}},
			{Kind: api.KindMain, Line: 24, Body: []api.Stmt{
				at(26, when(num(1), []api.Stmt{at(31, calls("f"))}, []api.Stmt{at(38, returns(num(1)))})),
			}},
			{Kind: api.KindOn, On: 1, Prio: 2, Line: 43, Body: []api.Stmt{at(48, let("z", api.TyU8, num(1))), at(53, plain(api.StEnable, 1))}},
		},
	})
}

// TestP71Primaries: each kind of primary, alone and behind unary operators.
func TestP71Primaries(t *testing.T) {
	x := named("x")
	for text, e := range map[string]api.Expr{
		"0": num(0), "0xffffffff": num(4294967295), "007": num(7), "x": x, "_": named("_"),
		"x[x]": index("x", x), "x[1+x]": index("x", bin(api.BinAdd, num(1), x)), "x[x[1]]": index("x", index("x", num(1))),
		"x()": call("x"), "x(x)": call("x", x), "x(1,x(),x[1])": call("x", num(1), call("x"), index("x", num(1))),
		"u8(x)": cast(api.TyU8, x), "u16(1)": cast(api.TyU16, num(1)), "u32(x-1)": cast(api.TyU32, bin(api.BinSub, x, num(1))), "i32(u8(x))": cast(api.TyI32, cast(api.TyU8, x)),
		"(x)": x, "((x))": x, "(x|1)": bin(api.BinOr, x, num(1)), "(-x)": un(api.UnNeg, x), "u8((x))": cast(api.TyU8, x), "x[(x)]": index("x", x),
	} {
		givesExpr(t, text, e)
		givesExpr(t, "-"+text, un(api.UnNeg, e))
		givesExpr(t, "~"+text, un(api.UnNot, e))
		givesExpr(t, "!"+text, un(api.UnZero, e))
		givesExpr(t, "!-~ - -"+text, un(api.UnZero, un(api.UnNeg, un(api.UnNot, un(api.UnNeg, un(api.UnNeg, e))))))
		givesExpr(t, text+"--~"+text, bin(api.BinSub, e, un(api.UnNeg, un(api.UnNot, e))))
		givesExpr(t, "-"+text+"*!"+text, bin(api.BinMul, un(api.UnNeg, e), un(api.UnZero, e)))
	}
}

// TestP71Operators: two and three operators of equal and of different levels,
// with and without parentheses.
func TestP71Operators(t *testing.T) {
	a, b, c, d := named("a"), named("b"), named("c"), un(api.UnNot, named("d"))
	for _, x := range binaries() {
		givesExpr(t, "a"+signOf(x)+"b", bin(x, a, b))
		for _, y := range binaries() {
			sx, sy := signOf(x), signOf(y)
			left, right := bin(y, bin(x, a, b), c), bin(x, a, bin(y, b, c))
			givesExpr(t, "(a"+sx+"b)"+sy+"c", left)
			givesExpr(t, "a"+sx+"(b"+sy+"c)", right)
			if levelOf(x) >= levelOf(y) {
				givesExpr(t, "a"+sx+"b"+sy+"c", left)
			} else {
				givesExpr(t, "a"+sx+"b"+sy+"c", right)
			}
			for _, z := range binaries() {
				givesExpr(t, "a"+sx+"b"+sy+"c"+signOf(z)+"~d", climbed([]api.Expr{a, b, c, d}, []int{x, y, z}))
			}
		}
	}
}

// climbed is operands with operators between them: the last one of the weakest
// ones is the outermost.
func climbed(operands []api.Expr, ops []int) api.Expr {
	if len(ops) == 0 {
		return operands[0]
	}
	last := 0
	for i, op := range ops {
		if levelOf(op) <= levelOf(ops[last]) {
			last = i
		}
	}
	return bin(ops[last], climbed(operands[:last+1], ops[:last]), climbed(operands[last+1:], ops[last+1:]))
}

// TestP71Trees: sources of many trees, with parentheses that are needed alone,
// and with more.
func TestP71Trees(t *testing.T) {
	r := numbers(2)
	for _, p := range programs() {
		for _, more := range []bool{false, true} {
			s := written(&p, &r, false, more)
			gives(t, s, p)
		}
	}
	for range 3000 {
		e := r.expr(6)
		if ast.CheckExpr(e) != api.OK {
			continue
		}
		w := writer{line: 1, random: &r, free: true, more: r.below(2) == 0}
		w.gap()
		w.expr(e)
		givesExpr(t, w.text.String(), e)
	}
}

// TestP71TreesOfStmts: statements are parsed as those in a block.
func TestP71TreesOfStmts(t *testing.T) {
	r := numbers(3)
	for range 1000 {
		l := r.stmts(5, 5)
		if slices.ContainsFunc(l, func(s api.Stmt) bool { return ast.CheckStmt(s) != api.OK }) {
			continue
		}
		w := writer{line: 1, random: &r, free: true, more: true}
		w.stmts(l)
		givesStmts(t, w.text.String(), l...)
	}
}

// TestP72Level: the levels of all operators; there are no others.
func TestP72Level(t *testing.T) {
	want := map[int]int{
		api.BinOr: 1, api.BinXor: 2, api.BinAnd: 3, api.BinEq: 4, api.BinNe: 4,
		api.BinLt: 5, api.BinLe: 5, api.ExGt: 5, api.ExGe: 5, api.BinShl: 6, api.BinShr: 6,
		api.BinAdd: 7, api.BinSub: 7, api.BinMul: 8, api.BinDiv: 8, api.BinRem: 8,
	}
	for op := -300; op < 300; op++ {
		if got := parse.Level(op); got != want[op] || got != levelOf(op) {
			t.Errorf("Level(%d) = %d; want %d", op, got, want[op])
		}
	}
	for shift := range 64 {
		for _, op := range []int{-1 << shift, 1<<shift + 32, -1<<shift - 1} {
			if got := parse.Level(op); got != 0 {
				t.Errorf("Level(%d) = %d", op, got)
			}
		}
	}
}

// TestT6Row: no result depends on calls ahead.
func TestT6Row(t *testing.T) {
	for i := range 3 {
		givesExpr(t, strconv.Itoa(i), num(uint32(i)))
		failsExpr(t, strings.Repeat("-", i), syntax(1, 1+i))
	}
}
