package show_test

import (
	"lamplighter/api"
	"lamplighter/ast"
)

// numbers is a fixed row of numbers that follow no plain pattern.
type numbers uint64

// below is the next number of the row, made one from 0 to n-1.
func (r *numbers) below(n int) int {
	*r = *r*6364136223846793005 + 1442695040888963407
	return int(*r>>36) % n
}

// one is one of some texts.
func (r *numbers) one(l ...string) string {
	return l[r.below(len(l))]
}

func (r *numbers) name() string {
	return r.one("x", "y", "z", "_", "lit", "u8x", "a0_9", "hours")
}

// binaries is the operators of ExBin.
func binaries() []int {
	return []int{1, 2, 3, 4, 5, 8, 9, 10, 11, 12, 14, 15, 16, 17, 20, 21}
}

// expr is a valid expression, nested at most that deep.
func (r *numbers) expr(deep int) api.Expr {
	kind := 1 + r.below(9)
	if deep < 2 {
		kind = 1 + r.below(2)
	}
	switch kind {
	case 1:
		return num(uint32(r.below(1<<27)) << r.below(6))
	case 2:
		return named(r.name())
	case 3:
		return index(r.name(), r.expr(deep-1))
	case 4:
		var l []api.Expr
		for range r.below(9) {
			l = append(l, r.expr(min(deep-1, r.below(4))))
		}
		return call(r.name(), l...)
	case 5:
		return un(1+r.below(3), r.expr(deep-1))
	case 6:
		return cast(1+r.below(4), r.expr(deep-1))
	}
	return bin(binaries()[r.below(16)], r.expr(deep-1), r.expr(deep-1))
}

// stmts is up to n valid statements, nested about that deep.
func (r *numbers) stmts(n, deep int) []api.Stmt {
	var l []api.Stmt
	for range r.below(n + 1) {
		l = append(l, r.stmt(deep))
	}
	return l
}

func (r *numbers) stmt(deep int) api.Stmt {
	kind := 1 + r.below(10)
	if deep < 2 {
		kind = 7 + r.below(3)
	}
	e := r.expr(min(deep-1, 5))
	switch kind {
	case 1:
		return let(r.name(), 1+r.below(4), e)
	case 2:
		if r.below(2) == 0 {
			return setAt(r.name(), r.expr(min(deep-1, 3)), e)
		}
		return set(r.name(), e)
	case 3:
		return calls(r.name(), e, r.expr(2))
	case 4:
		return when(e, r.stmts(3, deep-1), r.stmts(2, deep-1))
	case 5:
		return while(e, r.stmts(3, deep-1)...)
	case 6:
		return returns(e)
	case 7, 8:
		return plain(kind, r.below(32))
	case 9:
		return plain(kind, r.below(16))
	}
	names := []string{r.name(), r.name(), r.name()}
	return atomic(names[r.below(3):], r.stmts(3, deep-1)...)
}

func (r *numbers) program() api.Program {
	p := api.Program{Stack: 1 + r.below(65536)}
	for range r.below(4) {
		g := global(1+r.below(4), r.name(), r.below(5))
		for range r.below(max(g.Len, 1) + 1) {
			g.Init = append(g.Init, uint32(r.below(300)))
		}
		p.Globals = append(p.Globals, g)
	}
	for range r.below(3) {
		access := 1 + r.below(3)
		p.Gates = append(p.Gates, gate(r.name(), access&1 != 0, access&2 != 0))
	}
	for range r.below(5) {
		p.Funcs = append(p.Funcs, r.decl())
	}
	return p
}

func (r *numbers) decl() api.Decl {
	body := r.stmts(4, 6)
	switch r.below(3) {
	case 0:
		var l []api.Param
		for range r.below(9) {
			l = append(l, api.Param{Name: r.name(), Type: 1 + r.below(4)})
		}
		return function(r.name(), l, body...)
	case 1:
		return begins(body...)
	}
	return on(r.below(32), 1+r.below(15), body...)
}

// programs is valid programs: the smallest one, those with all there is, and
// others.
func programs() []api.Program {
	l := []api.Program{{Stack: 1}, firmware(), with(everyStatement()...), with()}
	for _, e := range everyExpression() {
		l[3].Funcs[0].Body = append(l[3].Funcs[0].Body, returns(e), setAt("x", e, e))
	}
	r := numbers(1)
	for len(l) < 300 {
		if p := r.program(); ast.Check(p) == api.OK {
			l = append(l, p)
		}
	}
	return l
}
