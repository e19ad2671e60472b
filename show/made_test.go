package show_test

import (
	"slices"

	"lamplighter/api"
)

// What is made here has no Lines: they are in no text.

func num(n uint32) api.Expr {
	return api.Expr{Kind: api.ExNum, N: n}
}

func named(name string) api.Expr {
	return api.Expr{Kind: api.ExVar, Name: name}
}

func index(name string, e api.Expr) api.Expr {
	return api.Expr{Kind: api.ExIndex, Name: name, Args: []api.Expr{e}}
}

func call(name string, args ...api.Expr) api.Expr {
	return api.Expr{Kind: api.ExCall, Name: name, Args: args}
}

func un(op int, e api.Expr) api.Expr {
	return api.Expr{Kind: api.ExUn, Op: op, Args: []api.Expr{e}}
}

func bin(op int, a, b api.Expr) api.Expr {
	return api.Expr{Kind: api.ExBin, Op: op, Args: []api.Expr{a, b}}
}

func cast(ty int, e api.Expr) api.Expr {
	return api.Expr{Kind: api.ExCast, Type: ty, Args: []api.Expr{e}}
}

func one(e api.Expr) []api.Expr {
	return []api.Expr{e}
}

func let(name string, ty int, e api.Expr) api.Stmt {
	return api.Stmt{Kind: api.StLet, Name: name, Type: ty, Expr: one(e)}
}

func set(name string, e api.Expr) api.Stmt {
	return api.Stmt{Kind: api.StSet, Name: name, Expr: one(e)}
}

func setAt(name string, at, e api.Expr) api.Stmt {
	return api.Stmt{Kind: api.StSet, Name: name, Index: one(at), Expr: one(e)}
}

func calls(name string, args ...api.Expr) api.Stmt {
	return api.Stmt{Kind: api.StCall, Expr: one(call(name, args...))}
}

func when(e api.Expr, then, otherwise []api.Stmt) api.Stmt {
	return api.Stmt{Kind: api.StIf, Expr: one(e), Then: then, Else: otherwise}
}

func while(e api.Expr, then ...api.Stmt) api.Stmt {
	return api.Stmt{Kind: api.StWhile, Expr: one(e), Then: then}
}

func returns(e api.Expr) api.Stmt {
	return api.Stmt{Kind: api.StReturn, Expr: one(e)}
}

// plain is one of the statements that have nothing but a number.
func plain(kind, n int) api.Stmt {
	return api.Stmt{Kind: kind, N: n}
}

func atomic(names []string, then ...api.Stmt) api.Stmt {
	return api.Stmt{Kind: api.StAtomic, Names: names, Then: then}
}

func function(name string, params []api.Param, body ...api.Stmt) api.Decl {
	return api.Decl{Kind: api.KindFunc, Name: name, Params: params, Body: body}
}

func begins(body ...api.Stmt) api.Decl {
	return api.Decl{Kind: api.KindMain, Body: body}
}

func on(line, prio int, body ...api.Stmt) api.Decl {
	return api.Decl{Kind: api.KindOn, On: line, Prio: prio, Body: body}
}

func global(ty int, name string, n int, init ...uint32) api.Global {
	return api.Global{Type: ty, Name: name, Len: n, Init: init}
}

func gate(name string, read, write bool) api.Gate {
	return api.Gate{Name: name, Read: read, Write: write}
}

// with is a program of main alone.
func with(body ...api.Stmt) api.Program {
	return api.Program{Stack: 1, Funcs: []api.Decl{begins(body...)}}
}

// many is n statements.
func many(n int) []api.Stmt {
	return slices.Repeat([]api.Stmt{plain(api.StLevel, 1)}, n)
}

// wide is an expression of n, which is not nested deep.
func wide(n int) api.Expr {
	e := call("f")
	if n == 1 {
		return num(1)
	}
	for left, n := min(n-1, 8), n-1; left > 0; left-- {
		part := n / left
		e.Args = append(e.Args, wide(part))
		n -= part
	}
	return e
}

// firmware is a program with all that a program may have.
func firmware() api.Program {
	n, lit, dark := named("n"), named("lit"), named("dark")
	by, most := named("by"), named("most")
	return api.Program{
		Stack: 64,
		Globals: []api.Global{
			{Name: "lit", Type: api.TyU8, Init: []uint32{1}, Line: 2},
			{Name: "hours", Type: api.TyU16, Len: 24, Init: []uint32{0, 15, 65535}, Line: 3},
			{Name: "since", Type: api.TyU32, Line: 4},
			{Name: "_last_1", Type: api.TyI32, Len: 2, Line: 5},
		},
		Gates: []api.Gate{
			{Name: "dark", Read: true, Line: 6},
			{Name: "led", Write: true, Line: 7},
			{Name: "lamp", Read: true, Write: true, Line: 8},
		},
		Funcs: []api.Decl{
			function("dim", []api.Param{{Name: "by", Type: api.TyU32}, {Name: "most", Type: api.TyI32}},
				when(bin(api.ExGe, by, most), []api.Stmt{returns(bin(api.BinSub, by, most))}, []api.Stmt{returns(num(0))}),
			),
			function("idle", nil),
			begins(
				plain(api.StLevel, 15),
				plain(api.StEnable, 31),
				let("n", api.TyU16, un(api.UnNeg, cast(api.TyU8, index("hours", lit)))),
				while(un(api.UnZero, dark),
					atomic([]string{"lit", "hours"},
						setAt("hours", bin(api.BinRem, n, num(24)), call("dim", num(1), bin(api.BinXor, n, num(2)))),
						set("n", un(api.UnNot, n))),
					calls("idle"),
					calls("dim", num(2), num(255)),
				),
				plain(api.StDisable, 0),
			),
			on(0, 1, set("led", bin(api.BinShl, lit, num(3)))),
			on(31, 15,
				when(bin(api.BinEq, dark, index("hours", num(3))), []api.Stmt{let("lit", api.TyI32, num(4294967295))}, nil),
				while(num(0)),
				returns(num(1)),
			),
		},
	}
}

// everyExpression is expressions of each kind, with each operator and type.
func everyExpression() []api.Expr {
	l := []api.Expr{num(0), num(4294967295), named("x"), named("_"), named("u8x"), index("x", num(1)), index("hours", index("at", named("y")))}
	args := []api.Expr{num(1), named("a"), index("b", named("c")), call("d"), un(api.UnNot, num(2)), cast(api.TyI32, num(3)), bin(api.ExGt, num(4), num(5)), num(6)}
	for n := range len(args) + 1 {
		l = append(l, call("f", args[:n:n]...))
	}
	for op := 1; op <= 3; op++ {
		l = append(l, un(op, named("x")), un(op, bin(api.BinMul, named("x"), named("y"))))
	}
	for _, op := range binaries() {
		l = append(l, bin(op, named("x"), un(api.UnNeg, num(2))), bin(op, bin(op, num(1), num(2)), bin(op, num(3), num(4))))
	}
	for ty := 1; ty <= 4; ty++ {
		l = append(l, cast(ty, bin(api.BinAdd, named("x"), named("y"))))
	}
	return l
}

// everyStatement is statements of each kind, with each of their parts and
// without it.
func everyStatement() []api.Stmt {
	x, few := named("x"), []api.Stmt{plain(api.StLevel, 3), set("y", num(1))}
	l := []api.Stmt{
		set("x", num(1)), setAt("x", num(1), x),
		calls("f"), calls("f", x, num(1), x, x, x, x, x, num(8)),
		when(x, nil, nil), when(x, few, nil), when(x, nil, few), when(x, few[:1:1], few),
		while(x), while(x, few...), returns(x), returns(call("f")),
		plain(api.StEnable, 0), plain(api.StEnable, 31), plain(api.StDisable, 0), plain(api.StDisable, 31), plain(api.StLevel, 0), plain(api.StLevel, 15),
		atomic([]string{"x"}), atomic([]string{"x", "y", "x"}, few...), atomic([]string{"x"}, atomic([]string{"y"})),
	}
	for ty := 1; ty <= 4; ty++ {
		l = append(l, let("x", ty, num(1)))
	}
	return l
}
