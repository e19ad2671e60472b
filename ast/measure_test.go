package ast_test

import (
	"reflect"
	"slices"
	"strconv"
	"testing"

	"lamplighter/api"
	"lamplighter/ast"
)

// sized compares Size and Deep with what is wanted.
func sized(t *testing.T, name string, p api.Program, size, deep int) {
	t.Helper()
	if n := ast.Size(p); n != size {
		t.Errorf("%s: Size is %d, want %d", name, n, size)
	}
	if n := ast.Deep(p); n != deep {
		t.Errorf("%s: Deep is %d, want %d", name, n, deep)
	}
}

// TestP61Size: programs that were counted by hand.
func TestP61Size(t *testing.T) {
	x := named("x")
	sized(t, "nothing", api.Program{}, 0, 0)
	sized(t, "no function", api.Program{Stack: 1, Globals: firmware().Globals, Gates: firmware().Gates}, 0, 0)
	sized(t, "functions without statements", api.Program{Stack: 1, Funcs: []api.Decl{begins(), function("f", firmware().Funcs[0].Params), on(1, 1)}}, 0, 0)
	sized(t, "the firmware", firmware(), sizeOfFirmware, deepestOfFirmware)
	sized(t, "a level", with(plain(api.StLevel, 1)), 1, 1)
	sized(t, "two levels", with(plain(api.StLevel, 1), plain(api.StLevel, 2)), 2, 1)
	sized(t, "a return", with(returns(x)), 2, 2)
	sized(t, "a let", with(let("x", 1, bin(1, x, num(1)))), 4, 3)
	sized(t, "a set", with(set("x", x)), 2, 2)
	sized(t, "a set with an index", with(setAt("x", bin(1, x, x), un(1, un(1, x)))), 7, 4)
	sized(t, "a set with a deep index", with(setAt("x", un(1, un(1, x)), x)), 5, 4)
	sized(t, "a call", with(calls("f", x, x, cast(1, x))), 6, 4)
	sized(t, "an if", with(when(x, many(2), many(3))), 7, 2)
	sized(t, "an if with a deep Else", with(when(x, many(1), []api.Stmt{returns(index("x", x))})), 6, 4)
	sized(t, "a while", with(while(x, while(x, while(x)))), 6, 4)
	sized(t, "a section", with(atomic([]string{"x", "y"}, set("x", num(1)))), 3, 3)
	sized(t, "the deepest in the first function", api.Program{Funcs: []api.Decl{begins(while(x, returns(x))), on(1, 1, returns(x))}}, 6, 3)
	sized(t, "the deepest in the last function", api.Program{Funcs: []api.Decl{on(1, 1, returns(x)), begins(while(x, returns(x)))}}, 6, 3)
}

// wrongProgram is a program in which nothing is valid, and each thing has what
// it must not have.
func wrongProgram() api.Program {
	e := api.Expr{Kind: 99, Name: "if", Args: []api.Expr{{Name: "G"}, {Kind: api.ExNum, Name: "x", Args: one(named(""))}}}
	s := api.Stmt{Kind: -1, Names: []string{""}, Index: []api.Expr{e, num(1)}, Expr: []api.Expr{{}, {}, e}, Then: many(2), Else: []api.Stmt{{Index: one(e)}}}
	return api.Program{Stack: -1, Funcs: []api.Decl{{Kind: 7, Body: []api.Stmt{s, s}}, {Body: []api.Stmt{{}}}}}
}

// TestP61SizeOfAny: programs that are not valid have a size and a depth too.
func TestP61SizeOfAny(t *testing.T) {
	sized(t, "a wrong program", wrongProgram(), 2*(1+4+1+2+4+2+1+4)+1, 5)
	sized(t, "an empty statement", with(api.Stmt{}), 1, 1)
	sized(t, "an empty expression", with(api.Stmt{Expr: []api.Expr{{}}}), 2, 2)
	sized(t, "a function of no Kind", api.Program{Funcs: []api.Decl{{Body: many(3)}}}, 3, 1)
	sized(t, "a number with Args", with(returns(api.Expr{Kind: api.ExNum, Args: []api.Expr{num(1), negated(7)}})), 10, 9)
	sized(t, "a level with an Else", with(api.Stmt{Kind: api.StLevel, Else: []api.Stmt{nested(8)}}), 9, 9)
	sized(t, "too many", with(many(100000)...), 100000, 1)
	sized(t, "too deep", with(nested(5000)), 5000, 5000)
	p := firmware()
	vary(&p, func(way string) {
		size, deep := measured(reflect.ValueOf(p))
		sized(t, way, p, size, deep)
	})
}

// TestP61SizeOfMany compares the sizes of programs with the reference.
func TestP61SizeOfMany(t *testing.T) {
	for i, p := range programs() {
		size, deep := measured(reflect.ValueOf(p))
		sized(t, "program "+strconv.Itoa(i), p, size, deep)
	}
}

// TestP61Spare: what is behind the end of a list does not count, and is not
// changed; empty lists are as good as none.
func TestP61Spare(t *testing.T) {
	wrong := api.Expr{Kind: 99}
	spare := []api.Expr{num(1), wrong, wrong}
	e := num(1)
	e.Args = spare[:0]
	checkExpr(t, "a number", e, api.OK)
	checkExpr(t, "un", api.Expr{Kind: api.ExUn, Op: 1, Args: spare[:1]}, api.OK)
	checkExpr(t, "un of what is behind the end", api.Expr{Kind: api.ExUn, Op: 1, Args: spare[:2]}, api.ErrArg)
	stmts := []api.Stmt{plain(api.StLevel, 1), {Kind: 99}}
	s := api.Stmt{Kind: api.StIf, Expr: spare[:1], Names: []string{"G"}[:0], Index: spare[:0], Then: stmts[:1], Else: stmts[:0]}
	checkStmt(t, "an if", s, api.OK)
	sized(t, "an if", with(s), 3, 2)
	p := with(s)
	p.Funcs = append(p.Funcs, api.Decl{Kind: 99})[:1]
	p.Funcs[0].Params = make([]api.Param, 0, 4)
	p.Globals = make([]api.Global, 0, 3)
	p.Gates = make([]api.Gate, 0, 3)
	checkProgram(t, "with spare capacity", p, api.OK)
	if !ast.Same(p, with(s)) || !ast.SameStmt(s, copied(s, true)) {
		t.Error("an empty list is not the same as none")
	}
	if !reflect.DeepEqual(spare[1:], []api.Expr{wrong, wrong}) || stmts[1].Kind != 99 {
		t.Error("spare capacity was changed")
	}
}

// TestP62Width: the width of each type, and of none.
func TestP62Width(t *testing.T) {
	for ty, want := range map[int]int{1: 8, 2: 16, 3: 32, 4: 32, 0: 0, 5: 0, -1: 0, 8: 0, 32: 0, 1<<32 + 1: 0, -1 << 63: 0, 1<<63 - 1: 0} {
		if got := ast.Width(ty); got != want {
			t.Errorf("Width(%d) = %d, want %d", ty, got, want)
		}
	}
}

// haveNames compares the Names of an expression with those that are wanted.
func haveNames(t *testing.T, name string, e api.Expr, want ...string) {
	t.Helper()
	before := copied(e, true)
	if got := ast.Names(e); !slices.Equal(got, want) {
		t.Errorf("%s: Names are %q, want %q", name, got, want)
	}
	if !reflect.DeepEqual(copied(e, true), before) {
		t.Errorf("%s was changed", name)
	}
}

// TestP62Names: the Names of expressions of each kind.
func TestP62Names(t *testing.T) {
	x, y := named("x"), named("y")
	haveNames(t, "x + a[y]", bin(api.BinAdd, x, index("a", y)), "x", "a", "y")
	haveNames(t, "a number", num(1))
	haveNames(t, "x", x, "x")
	haveNames(t, "x[1]", index("x", num(1)), "x")
	haveNames(t, "f()", call("f"), "f")
	haveNames(t, "f(x, 1, y)", call("f", x, num(1), y), "f", "x", "y")
	haveNames(t, "f(g(y), x)", call("f", call("g", y), x), "f", "g", "y", "x")
	haveNames(t, "-x", un(api.UnNeg, x), "x")
	haveNames(t, "u8(y)", cast(api.TyU8, y), "y")
	haveNames(t, "y - x", bin(api.BinSub, y, x), "y", "x")
	haveNames(t, "x * x[x]", bin(api.BinMul, x, index("x", x)), "x", "x", "x")
	haveNames(t, "(x + y) * (y + x)", bin(api.BinMul, bin(1, x, y), bin(1, y, x)), "x", "y", "y", "x")
	haveNames(t, "a[b[c[1]]]", index("a", index("b", index("c", num(1)))), "a", "b", "c")
	haveNames(t, "1 + 2", bin(1, num(1), num(2)))
}

// TestP62NamesOfAny: expressions that are not valid have Names too.
func TestP62NamesOfAny(t *testing.T) {
	haveNames(t, "nothing", api.Expr{})
	haveNames(t, "a number with a Name", api.Expr{Kind: api.ExNum, Name: "x"}, "x")
	haveNames(t, "no kind", api.Expr{Name: "f", Args: []api.Expr{named("x"), {Kind: 99, Name: "y"}}}, "f", "x", "y")
	haveNames(t, "a keyword", bin(99, named("if"), named("9a")), "if", "9a")
	haveNames(t, "Names that are missing", bin(1, named(""), index("", call("", named("x")))), "x")
	haveNames(t, "a number with Args", api.Expr{Kind: api.ExNum, Args: []api.Expr{named("x"), named("y")}}, "x", "y")
	haveNames(t, "a name with Args", api.Expr{Kind: api.ExVar, Name: "x", Args: []api.Expr{named("y")}}, "x", "y")
	haveNames(t, "many", call("f", slices.Repeat(one(named("x")), 5000)...), append([]string{"f"}, slices.Repeat([]string{"x"}, 5000)...)...)
}

// TestP62NamesOfMany compares the Names of many expressions with those in their
// texts; each time they are in new memory.
func TestP62NamesOfMany(t *testing.T) {
	l, r := everyExpression(), numbers(2)
	for range 3000 {
		l = append(l, r.expr(1+r.below(7)))
	}
	for _, e := range l {
		haveNames(t, text(e), e, namesIn(e)...)
		first, second := ast.Names(e), ast.Names(e)
		for i := range first {
			first[i] = "changed"
		}
		_ = append(first, "more")
		if !slices.Equal(second, namesIn(e)) {
			t.Errorf("%s: the Names share memory", text(e))
		}
	}
}
