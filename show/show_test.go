package show_test

import (
	"fmt"
	"math"
	"slices"
	"strconv"
	"strings"
	"testing"

	"lamplighter/api"
	"lamplighter/ast"
	"lamplighter/parse"
	"lamplighter/show"
)

// short is the beginning of a text.
func short(s string) string {
	return fmt.Sprintf("%.400q", s)
}

// shows checks the text of an expression, and that it is parsed back.
func shows(t *testing.T, e api.Expr, want string) {
	t.Helper()
	s, err := show.Expr(e)
	if err != api.OK || s != want {
		t.Fatalf("Expr of %+v: %s, error %d; want %s", e, short(s), err, short(want))
	}
	if back, f := parse.Expr(s); f != (api.Fault{}) || !ast.SameExpr(back, e) {
		t.Fatalf("%s is parsed into %+v, %+v", short(s), back, f)
	}
}

// showsStmt checks the text of a statement, and that it is parsed back.
func showsStmt(t *testing.T, x api.Stmt, want string) {
	t.Helper()
	s, err := show.Stmt(x)
	if err != api.OK || s != want {
		t.Fatalf("Stmt of %+v: %s, error %d; want %s", x, short(s), err, short(want))
	}
	if back, f := parse.Stmts(s); f != (api.Fault{}) || len(back) != 1 || !ast.SameStmt(back[0], x) {
		t.Fatalf("%s is parsed into %+v, %+v", short(s), back, f)
	}
}

// showsProgram checks the text of a program, and that it is parsed back.
func showsProgram(t *testing.T, p api.Program, want string) {
	t.Helper()
	s, err := show.Program(p)
	if err != api.OK || s != want {
		t.Fatalf("Program: %s, error %d; want %s", short(s), err, short(want))
	}
	if back, f := parse.Parse(s); f != (api.Fault{}) || !ast.Same(back, p) {
		t.Fatalf("%s is parsed into %+v, %+v", short(s), back, f)
	}
}

// lines is lines with their ends.
func lines(l ...string) string {
	return strings.Join(l, "\n") + "\n"
}

// TestP81Firmware: the text of a program with all that a program may have.
func TestP81Firmware(t *testing.T) {
	showsProgram(t, firmware(), lines(
		"stack 64;",
		"u8 lit = 1;",
		"u16 hours[24] = 0, 15, 65535;",
		"u32 since;",
		"i32 _last_1[2];",
		"port read dark;",
		"port write led;",
		"port both lamp;",
		"func dim(u32 by, i32 most) {",
		"  if (by >= most) {",
		"    return by - most;",
		"  } else {",
		"    return 0;",
		"  }",
		"}",
		"func idle() {",
		"}",
		"main {",
		"  level 15;",
		"  enable 31;",
		"  u16 n = -u8(hours[lit]);",
		"  while (!dark) {",
		"    atomic (lit, hours) {",
		"      hours[n % 24] = dim(1, n ^ 2);",
		"      n = ~n;",
		"    }",
		"    idle();",
		"    dim(2, 255);",
		"  }",
		"  disable 0;",
		"}",
		"on 0 prio 1 {",
		"  led = lit << 3;",
		"}",
		"on 31 prio 15 {",
		"  if (dark == hours[3]) {",
		"    i32 lit = 4294967295;",
		"  }",
		"  while (0) {",
		"  }",
		"  return 1;",
		"}",
	))
}

// TestP81Examples: the examples of the chapter.
func TestP81Examples(t *testing.T) {
	x, y := named("x"), named("y")
	shows(t, bin(api.BinMul, bin(api.BinSub, num(1), bin(api.BinSub, num(2), x)), y), "(1 - (2 - x)) * y")
	showsStmt(t, when(x, nil, nil), "if (x) {\n}\n")
	showsStmt(t, when(x, []api.Stmt{}, []api.Stmt{}), "if (x) {\n}\n")
}

// TestP81Expressions: expressions of each kind, as they are written in the
// chapter.
func TestP81Expressions(t *testing.T) {
	x, y, sum := named("x"), named("y"), bin(api.BinAdd, named("x"), named("y"))
	for text, e := range map[string]api.Expr{
		"0": num(0), "7": num(7), "10": num(10), "2147483647": num(math.MaxInt32), "2147483648": num(1 << 31), "4294967295": num(math.MaxUint32),
		"x": x, "_": named("_"), "u8x": named("u8x"), "_0": named("_0"),
		"x[0]": index("x", num(0)), "x[y]": index("x", y), "x[x + y]": index("x", sum), "x[x[y]]": index("x", index("x", y)), "x[-y]": index("x", un(api.UnNeg, y)),
		"x()": call("x"), "x(y)": call("x", y), "x(x, y)": call("x", x, y), "x(x + y)": call("x", sum), "x(x + y, 1, x + y)": call("x", sum, num(1), sum),
		"x(y())": call("x", call("y")), "x(1, 2, 3, 4, 5, 6, 7, 8)": call("x", num(1), num(2), num(3), num(4), num(5), num(6), num(7), num(8)),
		"u8(x)": cast(api.TyU8, x), "u16(x + y)": cast(api.TyU16, sum), "u32(1)": cast(api.TyU32, num(1)), "i32(i32(x))": cast(api.TyI32, cast(api.TyI32, x)), "i32(-x)": cast(api.TyI32, un(api.UnNeg, x)),
		"-x": un(api.UnNeg, x), "~1": un(api.UnNot, num(1)), "!x()": un(api.UnZero, call("x")), "-(x + y)": un(api.UnNeg, sum), "--x": un(api.UnNeg, un(api.UnNeg, x)),
		"x + y": sum, "x + y + x": bin(api.BinAdd, sum, x), "x + (x + y)": bin(api.BinAdd, x, sum), "(x + y) * x": bin(api.BinMul, sum, x), "x < x + y": bin(api.BinLt, x, sum),
	} {
		shows(t, e, text)
	}
	for _, e := range everyExpression() {
		shows(t, e, exprText(e))
	}
}

// TestP81Unary: an operator on one operand ahead of each kind of operand, and
// one behind the other.
func TestP81Unary(t *testing.T) {
	for op, sign := range map[int]string{api.UnNeg: "-", api.UnNot: "~", api.UnZero: "!"} {
		for _, e := range everyExpression() {
			want := sign + exprText(e)
			if e.Kind == api.ExBin {
				want = sign + "(" + exprText(e) + ")"
			}
			shows(t, un(op, e), want)
			for next, ahead := range map[int]string{api.UnNeg: "-", api.UnNot: "~", api.UnZero: "!"} {
				shows(t, un(next, un(op, e)), ahead+want)
				shows(t, index("x", un(next, un(op, e))), "x["+ahead+want+"]")
			}
		}
	}
}

// TestP81UnaryWithin: what has one operand has no parentheses, on neither side
// of any operator, although the numbers of its operators are also those of
// others; nor has anything else that is not an ExBin.
func TestP81UnaryWithin(t *testing.T) {
	for _, op := range binaries() {
		sign, _ := signAndLevel(op)
		for _, e := range everyExpression() {
			if e.Kind != api.ExBin {
				shows(t, bin(op, e, named("y")), exprText(e)+" "+sign+" y")
				shows(t, bin(op, named("y"), e), "y "+sign+" "+exprText(e))
			}
		}
		for inner := 1; inner <= 3; inner++ {
			mark := []string{"", "-", "~", "!"}[inner]
			shows(t, un(inner, bin(op, un(inner, num(1)), un(inner, num(2)))), mark+"("+mark+"1 "+sign+" "+mark+"2)")
		}
	}
}

// TestP81TwoOperators: two operators of equal and of different levels, on both
// sides.
func TestP81TwoOperators(t *testing.T) {
	a, b, c := named("a"), named("b"), named("c")
	for _, x := range slices.Concat(ops...) {
		sx, lx := signAndLevel(x)
		for _, y := range slices.Concat(ops...) {
			sy, ly := signAndLevel(y)
			left, right := "a "+sy+" b "+sx+" c", "a "+sx+" b "+sy+" c"
			if ly < lx {
				left = "(a " + sy + " b) " + sx + " c"
			}
			if ly <= lx {
				right = "a " + sx + " (b " + sy + " c)"
			}
			shows(t, bin(x, bin(y, a, b), c), left)
			shows(t, bin(x, a, bin(y, b, c)), right)
		}
	}
}

// TestP81SomeOperators: the same, told by hand.
func TestP81SomeOperators(t *testing.T) {
	a, b, c := named("a"), named("b"), named("c")
	for _, x := range []struct {
		outer, inner int
		left, right  string
	}{
		{api.BinSub, api.BinSub, "a - b - c", "a - (b - c)"},
		{api.BinAdd, api.BinSub, "a - b + c", "a + (b - c)"},
		{api.BinMul, api.BinAdd, "(a + b) * c", "a * (b + c)"},
		{api.BinAdd, api.BinMul, "a * b + c", "a + b * c"},
		{api.BinMul, api.BinRem, "a % b * c", "a * (b % c)"},
		{api.BinShl, api.BinAdd, "a + b << c", "a << b + c"},
		{api.BinAdd, api.BinShl, "(a << b) + c", "a + (b << c)"},
		{api.BinShr, api.BinShl, "a << b >> c", "a >> (b << c)"},
		{api.BinLt, api.BinShl, "a << b < c", "a < b << c"},
		{api.BinLt, api.ExGe, "a >= b < c", "a < (b >= c)"},
		{api.BinEq, api.BinLt, "a < b == c", "a == b < c"},
		{api.BinLe, api.BinNe, "(a != b) <= c", "a <= (b != c)"},
		{api.BinAnd, api.BinEq, "a == b & c", "a & b == c"},
		{api.BinEq, api.BinAnd, "(a & b) == c", "a == (b & c)"},
		{api.BinXor, api.BinAnd, "a & b ^ c", "a ^ b & c"},
		{api.BinAnd, api.BinXor, "(a ^ b) & c", "a & (b ^ c)"},
		{api.BinOr, api.BinXor, "a ^ b | c", "a | b ^ c"},
		{api.BinXor, api.BinOr, "(a | b) ^ c", "a ^ (b | c)"},
		{api.BinOr, api.BinOr, "a | b | c", "a | (b | c)"},
		{api.ExGt, api.ExGt, "a > b > c", "a > (b > c)"},
	} {
		shows(t, bin(x.outer, bin(x.inner, a, b), c), x.left)
		shows(t, bin(x.outer, a, bin(x.inner, b, c)), x.right)
	}
}

// TestP81ThreeOperators: three operators in each of the five ways in which they
// can be in each other.
func TestP81ThreeOperators(t *testing.T) {
	a, b, c, d := named("a"), named("b"), named("c"), named("d")
	for _, x := range binaries() {
		for _, y := range binaries() {
			for _, z := range binaries() {
				for _, e := range []api.Expr{
					bin(z, bin(y, bin(x, a, b), c), d),
					bin(z, bin(x, a, bin(y, b, c)), d),
					bin(y, bin(x, a, b), bin(z, c, d)),
					bin(x, a, bin(z, bin(y, b, c), d)),
					bin(x, a, bin(y, b, bin(z, c, d))),
				} {
					shows(t, e, exprText(e))
				}
			}
		}
	}
}

// TestP81Parentheses: none can be left out: without any pair the text is
// another tree, or none.
func TestP81Parentheses(t *testing.T) {
	r, pairs := numbers(2), 0
	for range 4000 {
		e := r.expr(6)
		s, err := show.Expr(e)
		if err != api.OK {
			continue
		}
		for _, pair := range groups(s) {
			pairs++
			less := s[:pair[0]] + " " + s[pair[0]+1:pair[1]] + " " + s[pair[1]+1:]
			if back, f := parse.Expr(less); f == (api.Fault{}) && ast.SameExpr(back, e) {
				t.Fatalf("%q is the same as %q", less, s)
			}
		}
	}
	if pairs < 1000 {
		t.Errorf("only %d pairs", pairs)
	}
}

// groups is where the parentheses around operands are: those that follow no
// name and no type.
func groups(s string) [][2]int {
	var l [][2]int
	var open []int
	for at, b := range []byte(s) {
		switch b {
		case '(':
			open = append(open, at)
		case ')':
			from := open[len(open)-1]
			open = open[:len(open)-1]
			if from == 0 || strings.IndexByte(" ([-~!", s[from-1]) >= 0 {
				l = append(l, [2]int{from, at})
			}
		}
	}
	return l
}

// TestP81Statements: statements of each kind, as they are written in the
// chapter.
func TestP81Statements(t *testing.T) {
	x, sum, some := named("x"), bin(api.BinAdd, named("x"), num(1)), []api.Stmt{plain(api.StLevel, 1)}
	for text, s := range map[string]api.Stmt{
		"u8 x = x;": let("x", api.TyU8, x), "u16 x = 0;": let("x", api.TyU16, num(0)), "u32 y = x + 1;": let("y", api.TyU32, sum), "i32 x = -x;": let("x", api.TyI32, un(api.UnNeg, x)),
		"x = x;": set("x", x), "x = x + 1;": set("x", sum), "x = y();": set("x", call("y")),
		"x[x] = x;": setAt("x", x, x), "x[x + 1] = x + 1;": setAt("x", sum, sum), "y[x[0]] = x[1];": setAt("y", index("x", num(0)), index("x", num(1))),
		"x();": calls("x"), "x(x);": calls("x", x), "x(x, x + 1);": calls("x", x, sum), "x(1, 2, 3, 4, 5, 6, 7, x());": calls("x", num(1), num(2), num(3), num(4), num(5), num(6), num(7), call("x")),
		"return x;": returns(x), "return x + 1;": returns(sum), "return 4294967295;": returns(num(math.MaxUint32)),
		"enable 0;": plain(api.StEnable, 0), "enable 31;": plain(api.StEnable, 31), "disable 0;": plain(api.StDisable, 0), "disable 31;": plain(api.StDisable, 31),
		"level 0;": plain(api.StLevel, 0), "level 15;": plain(api.StLevel, 15),
		"if (x) {\n}":                                        when(x, nil, nil),
		"if (x + 1) {\n  level 1;\n}":                        when(sum, some, nil),
		"if (x) {\n} else {\n  level 1;\n}":                  when(x, nil, some),
		"if (x) {\n  level 1;\n} else {\n  level 1;\n}":      when(x, some, some),
		"if (x) {\n  level 1;\n  level 1;\n}":                when(x, many(2), []api.Stmt{}),
		"if (x) {\n} else {\n  level 1;\n  level 1;\n}":      when(x, []api.Stmt{}, many(2)),
		"while (x) {\n}":                                     while(x),
		"while (x + 1) {\n  level 1;\n}":                     while(sum, some...),
		"while (x) {\n  level 1;\n  level 1;\n}":             while(x, many(2)...),
		"atomic (x) {\n}":                                    atomic([]string{"x"}),
		"atomic (x, y) {\n  level 1;\n}":                     atomic([]string{"x", "y"}, some...),
		"atomic (x, y, x) {\n  level 1;\n  level 1;\n}":      atomic([]string{"x", "y", "x"}, many(2)...),
		"if (x) {\n} else {\n  if (x) {\n  }\n}":             when(x, nil, []api.Stmt{when(x, nil, nil)}),
		"if (x) {\n  if (x) {\n  } else {\n    x();\n  }\n}": when(x, []api.Stmt{when(x, nil, []api.Stmt{calls("x")})}, nil),
	} {
		showsStmt(t, s, text+"\n")
	}
	for _, s := range everyStatement() {
		showsStmt(t, s, stmtText(s))
	}
}

// TestP81WithinStatements: each expression wherever a statement may have one;
// none has parentheses around all of it.
func TestP81WithinStatements(t *testing.T) {
	for _, e := range everyExpression() {
		s := exprText(e)
		showsStmt(t, let("a", api.TyU16, e), "u16 a = "+s+";\n")
		showsStmt(t, set("a", e), "a = "+s+";\n")
		showsStmt(t, setAt("a", e, e), "a["+s+"] = "+s+";\n")
		showsStmt(t, calls("f", e, e), "f("+s+", "+s+");\n")
		showsStmt(t, when(e, nil, many(1)), "if ("+s+") {\n} else {\n  level 1;\n}\n")
		showsStmt(t, while(e), "while ("+s+") {\n}\n")
		showsStmt(t, returns(e), "return "+s+";\n")
	}
}

// TestP81Blocks: blocks of each kind in blocks of each kind in blocks of each
// kind, with their indents.
func TestP81Blocks(t *testing.T) {
	x := named("x")
	type block struct {
		head, tail string
		make       func(l ...api.Stmt) api.Stmt
	}
	blocks := []block{
		{"if (x) {", "", func(l ...api.Stmt) api.Stmt { return when(x, l, nil) }},
		{"if (x) {", "} else {|  x = 1;", func(l ...api.Stmt) api.Stmt { return when(x, l, []api.Stmt{set("x", num(1))}) }},
		{"if (x) {|  x = 2;|} else {", "", func(l ...api.Stmt) api.Stmt { return when(x, []api.Stmt{set("x", num(2))}, l) }},
		{"while (x) {", "", func(l ...api.Stmt) api.Stmt { return while(x, l...) }},
		{"atomic (x) {", "", func(l ...api.Stmt) api.Stmt { return atomic([]string{"x"}, l...) }},
	}
	indent := func(n int, text string) string {
		var l []string
		for line := range strings.SplitSeq(text, "|") {
			if line != "" {
				l = append(l, strings.Repeat(" ", n)+line+"\n")
			}
		}
		return strings.Join(l, "")
	}
	for _, a := range blocks {
		for _, b := range blocks {
			for _, c := range blocks {
				tree := a.make(plain(api.StLevel, 2), b.make(c.make(set("y", x)), plain(api.StLevel, 3)), plain(api.StLevel, 4))
				want := indent(0, a.head) + indent(2, "level 2;|"+b.head) + indent(4, c.head) + indent(6, "y = x;") + indent(4, c.tail+"|}") +
					indent(4, "level 3;") + indent(2, b.tail+"|}|level 4;") + indent(0, a.tail+"|}")
				showsStmt(t, tree, want)
				inMain := "main {\n"
				for line := range strings.Lines(want) {
					inMain += "  " + line
				}
				showsProgram(t, with(tree), "stack 1;\n"+inMain+"}\n")
			}
		}
	}
}

// TestP81Declarations: declarations of each kind, with each of their parts and
// without it.
func TestP81Declarations(t *testing.T) {
	for i, ty := range []string{"u8", "u16", "u32", "i32"} {
		for text, g := range map[string]api.Global{
			" x;":                        global(i+1, "x", 0),
			" x = 0;":                    global(i+1, "x", 0, 0),
			" x = 4294967295;":           global(i+1, "x", 0, math.MaxUint32),
			" x[1];":                     global(i+1, "x", 1),
			" x[1] = 0;":                 global(i+1, "x", 1, 0),
			" x[4096];":                  global(i+1, "x", 4096),
			" x[3] = 4294967295;":        global(i+1, "x", 3, math.MaxUint32),
			" x[3] = 1, 0, 2147483648;":  global(i+1, "x", 3, 1, 0, 1<<31),
			" long_0[4] = 10, 10, 9, 9;": global(i+1, "long_0", 4, 10, 10, 9, 9),
		} {
			showsProgram(t, api.Program{Stack: 9, Globals: []api.Global{g}}, "stack 9;\n"+ty+text+"\n")
		}
	}
	for text, g := range map[string]api.Gate{"read": gate("x", true, false), "write": gate("x", false, true), "both": gate("x", true, true)} {
		showsProgram(t, api.Program{Stack: 9, Gates: []api.Gate{g}}, "stack 9;\nport "+text+" x;\n")
	}
	u8, u16, u32, i32 := api.Param{Name: "x", Type: api.TyU8}, api.Param{Name: "y", Type: api.TyU16}, api.Param{Name: "z", Type: api.TyU32}, api.Param{Name: "x", Type: api.TyI32}
	for head, d := range map[string]api.Decl{
		"func f()":           function("f", nil),
		"func f(u8 x)":       function("f", []api.Param{u8}),
		"func f(u8 x, u8 x)": function("f", []api.Param{u8, u8}),
		"func f_1(i32 x, u32 z, u16 y, u8 x, u8 x, u16 y, u32 z, i32 x)": function("f_1", []api.Param{i32, u32, u16, u8, u8, u16, u32, i32}),
		"main":          begins(),
		"on 0 prio 1":   on(0, 1),
		"on 31 prio 15": on(31, 15),
		"on 7 prio 10":  on(7, 10),
	} {
		showsProgram(t, api.Program{Stack: 9, Funcs: []api.Decl{d}}, "stack 9;\n"+head+" {\n}\n")
		d.Body = many(1)
		showsProgram(t, api.Program{Stack: 9, Funcs: []api.Decl{d}}, "stack 9;\n"+head+" {\n  level 1;\n}\n")
		d.Body = []api.Stmt{while(num(1), many(2)...), returns(num(3))}
		showsProgram(t, api.Program{Stack: 9, Funcs: []api.Decl{d, d}}, "stack 9;\n"+strings.Repeat(head+" {\n  while (1) {\n    level 1;\n    level 1;\n  }\n  return 3;\n}\n", 2))
	}
	for _, n := range []int{1, 2, 10, 65535, 65536} {
		showsProgram(t, api.Program{Stack: n}, "stack "+strconv.Itoa(n)+";\n")
	}
}

// TestP81Order: Globals come ahead of Gates, and these ahead of Funcs; each in
// their order, whatever they are.
func TestP81Order(t *testing.T) {
	p := api.Program{
		Stack:   2,
		Globals: []api.Global{global(api.TyU16, "z", 0), global(api.TyU8, "a", 2), global(api.TyU16, "z", 0)},
		Gates:   []api.Gate{gate("z", true, true), gate("a", true, false), gate("m", false, true)},
		Funcs:   []api.Decl{on(5, 5), begins(), function("f", nil), on(2, 9), begins(), function("a", nil)},
	}
	for i := range p.Funcs {
		p.Funcs[i].Line = 90 - i
	}
	showsProgram(t, p, "stack 2;\nu16 z;\nu8 a[2];\nu16 z;\nport both z;\nport read a;\nport write m;\n"+
		"on 5 prio 5 {\n}\nmain {\n}\nfunc f() {\n}\non 2 prio 9 {\n}\nmain {\n}\nfunc a() {\n}\n")
}

// TestP81Trees: many trees.
func TestP81Trees(t *testing.T) {
	for _, p := range programs() {
		showsProgram(t, p, programText(p))
		for _, d := range p.Funcs {
			for _, s := range d.Body {
				showsStmt(t, s, stmtText(s))
			}
		}
	}
	r := numbers(3)
	for range 3000 {
		if e := r.expr(7); ast.CheckExpr(e) == api.OK {
			shows(t, e, exprText(e))
		}
	}
}

// TestP81Layout: what holds for the lines of all texts.
func TestP81Layout(t *testing.T) {
	for _, p := range programs() {
		s, err := show.Program(p)
		if err != api.OK || !strings.HasSuffix(s, "\n") || strings.ContainsAny(s, "\r\t") {
			t.Fatalf("%s, error %d", short(s), err)
		}
		deep := 0
		for line := range strings.SplitSeq(strings.TrimSuffix(s, "\n"), "\n") {
			text := strings.TrimLeft(line, " ")
			if strings.HasPrefix(text, "}") {
				deep--
			}
			if len(line)-len(text) != 2*deep {
				t.Fatalf("%q is indented %d deep", line, deep)
			}
			if strings.HasSuffix(line, " ") || strings.Contains(text, "  ") {
				t.Fatalf("%q has blanks that are not needed", line)
			}
			if !strings.HasSuffix(text, ";") && !strings.HasSuffix(text, "{") && text != "}" || strings.ContainsAny(text[:len(text)-1], ";{") {
				t.Fatalf("%q is not what a line is", line)
			}
			if strings.HasSuffix(text, "{") {
				deep++
			}
		}
	}
	r := numbers(4)
	for range 1000 {
		if s, _ := show.Expr(r.expr(6)); strings.ContainsAny(s, "\n\r\t;{}") || strings.Contains(s, "  ") || s != strings.TrimSpace(s) {
			t.Fatalf("%q is not what an expression is", s)
		}
	}
}

// TestP81Lines: no Line changes a text.
func TestP81Lines(t *testing.T) {
	for _, line := range []int{0, 1, 77, math.MaxInt} {
		p := firmware()
		for i := range p.Globals {
			p.Globals[i].Line = line
		}
		for i := range p.Gates {
			p.Gates[i].Line = line
		}
		for i := range p.Funcs {
			p.Funcs[i].Line = line
			for at := range p.Funcs[i].Body {
				p.Funcs[i].Body[at].Line = line
			}
		}
		showsProgram(t, p, programText(firmware()))
		for _, s := range everyStatement() {
			s.Line = line
			showsStmt(t, s, stmtText(s))
		}
	}
}

// TestP81Sign: the symbols of all operators of ExBin; there are no others.
func TestP81Sign(t *testing.T) {
	want := map[int]string{
		1: "+", 2: "-", 3: "*", 4: "/", 5: "%", 8: "&", 9: "|", 10: "^", 11: "<<", 12: ">>",
		14: "==", 15: "!=", 16: "<", 17: "<=", 20: ">", 21: ">=",
	}
	for op := -300; op < 300; op++ {
		if got := show.Sign(op); got != want[op] {
			t.Errorf("Sign(%d) = %q; want %q", op, got, want[op])
		}
	}
	for _, op := range []int{math.MinInt, math.MaxInt, 1 << 32, 1<<32 + 1, 1<<8 + 1, -1 << 32, math.MinInt + 1} {
		if got := show.Sign(op); got != "" {
			t.Errorf("Sign(%d) = %q", op, got)
		}
	}
}

// TestP81Type: the words of all types; there are no others.
func TestP81Type(t *testing.T) {
	want := map[int]string{1: "u8", 2: "u16", 3: "u32", 4: "i32"}
	for ty := -300; ty < 300; ty++ {
		if got := show.Type(ty); got != want[ty] {
			t.Errorf("Type(%d) = %q; want %q", ty, got, want[ty])
		}
	}
	for _, ty := range []int{math.MinInt, math.MaxInt, 1 << 32, 1<<32 + 1, 1<<8 + 1, -1 << 32, math.MinInt + 1} {
		if got := show.Type(ty); got != "" {
			t.Errorf("Type(%d) = %q", ty, got)
		}
	}
}
