package parse_test

import (
	"lamplighter/api"
)

// What is made here has no Lines; the writer sets them.

func num(n uint32) api.Expr {
	return api.Expr{Kind: api.ExNum, N: n}
}

func named(name string) api.Expr {
	return api.Expr{Kind: api.ExVar, Name: name}
}

func index(name string, e api.Expr) api.Expr {
	return api.Expr{Kind: api.ExIndex, Name: name, Args: []api.Expr{e}}
}

func call(name string, args ...api.Expr) api.Expr {
	return api.Expr{Kind: api.ExCall, Name: name, Args: args}
}

func un(op int, e api.Expr) api.Expr {
	return api.Expr{Kind: api.ExUn, Op: op, Args: []api.Expr{e}}
}

func bin(op int, a, b api.Expr) api.Expr {
	return api.Expr{Kind: api.ExBin, Op: op, Args: []api.Expr{a, b}}
}

func cast(ty int, e api.Expr) api.Expr {
	return api.Expr{Kind: api.ExCast, Type: ty, Args: []api.Expr{e}}
}

func one(e api.Expr) []api.Expr {
	return []api.Expr{e}
}

func let(name string, ty int, e api.Expr) api.Stmt {
	return api.Stmt{Kind: api.StLet, Name: name, Type: ty, Expr: one(e)}
}

func set(name string, e api.Expr) api.Stmt {
	return api.Stmt{Kind: api.StSet, Name: name, Expr: one(e)}
}

func setAt(name string, at, e api.Expr) api.Stmt {
	return api.Stmt{Kind: api.StSet, Name: name, Index: one(at), Expr: one(e)}
}

func calls(name string, args ...api.Expr) api.Stmt {
	return api.Stmt{Kind: api.StCall, Expr: one(call(name, args...))}
}

func when(e api.Expr, then, otherwise []api.Stmt) api.Stmt {
	return api.Stmt{Kind: api.StIf, Expr: one(e), Then: then, Else: otherwise}
}

func while(e api.Expr, then ...api.Stmt) api.Stmt {
	return api.Stmt{Kind: api.StWhile, Expr: one(e), Then: then}
}

func returns(e api.Expr) api.Stmt {
	return api.Stmt{Kind: api.StReturn, Expr: one(e)}
}

// plain is one of the statements that have nothing but a number.
func plain(kind, n int) api.Stmt {
	return api.Stmt{Kind: kind, N: n}
}

func atomic(names []string, then ...api.Stmt) api.Stmt {
	return api.Stmt{Kind: api.StAtomic, Names: names, Then: then}
}

func function(name string, params []api.Param, body ...api.Stmt) api.Decl {
	return api.Decl{Kind: api.KindFunc, Name: name, Params: params, Body: body}
}

func begins(body ...api.Stmt) api.Decl {
	return api.Decl{Kind: api.KindMain, Body: body}
}

func on(line, prio int, body ...api.Stmt) api.Decl {
	return api.Decl{Kind: api.KindOn, On: line, Prio: prio, Body: body}
}

func global(ty int, name string, n int, init ...uint32) api.Global {
	return api.Global{Type: ty, Name: name, Len: n, Init: init}
}

func gate(name string, read, write bool) api.Gate {
	return api.Gate{Name: name, Read: read, Write: write}
}

// linesOf is all Lines of a program, in the order of its parts.
func linesOf(p api.Program) []int {
	var l []int
	for _, g := range p.Globals {
		l = append(l, g.Line)
	}
	for _, g := range p.Gates {
		l = append(l, g.Line)
	}
	for _, d := range p.Funcs {
		l = append(append(l, d.Line), linesOfStmts(d.Body)...)
	}
	return l
}

func linesOfStmts(body []api.Stmt) []int {
	var l []int
	for _, s := range body {
		l = append(l, s.Line)
		l = append(l, linesOfStmts(s.Then)...)
		l = append(l, linesOfStmts(s.Else)...)
	}
	return l
}
