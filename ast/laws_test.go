package ast_test

import (
	"slices"
	"testing"

	"lamplighter/api"
	"lamplighter/ast"
)

// eachPart calls f with each statement, and g with each expression.
func eachPart(l []api.Stmt, f func(api.Stmt), g func(api.Expr)) {
	var down func(l []api.Expr)
	down = func(l []api.Expr) {
		for _, e := range l {
			g(e)
			down(e.Args)
		}
	}
	for _, s := range l {
		f(s)
		down(s.Index)
		down(s.Expr)
		eachPart(s.Then, f, g)
		eachPart(s.Else, f, g)
	}
}

// largest is valid programs that just are.
func largest() []api.Program {
	return []api.Program{with(many(4000)...), with(nested(60)), with(returns(negated(59))), with(returns(wide(3999))), with(while(wide(2000), when(num(1), many(1000), many(996))))}
}

// TestP63Parts: the parts of what is valid are valid: statements, expressions,
// and programs that have less.
func TestP63Parts(t *testing.T) {
	parts := 0
	for _, p := range append(programs(), largest()...) {
		if e := ast.Check(p); e != api.OK {
			t.Fatalf("error %d", e)
		}
		for i, d := range p.Funcs {
			eachPart(d.Body, func(s api.Stmt) {
				parts++
				if e := ast.CheckStmt(s); e != api.OK {
					t.Fatalf("%+v: error %d", s, e)
				}
			}, func(x api.Expr) {
				parts++
				if e := ast.CheckExpr(x); e != api.OK {
					t.Fatalf("%+v: error %d", x, e)
				}
			})
			less := p
			less.Globals, less.Gates, less.Funcs = p.Globals[:len(p.Globals)/2], p.Gates[:len(p.Gates)/2], slices.Delete(slices.Clone(p.Funcs), i, i+1)
			if e := ast.Check(less); e != api.OK {
				t.Fatalf("without function %d: error %d", i, e)
			}
		}
	}
	if parts < 20000 {
		t.Errorf("only %d parts", parts)
	}
}

// TestP63Whole: what has a part that is not valid is not valid.
func TestP63Whole(t *testing.T) {
	p := firmware()
	vary(&p, func(way string) {
		bad := false
		for _, d := range p.Funcs {
			eachPart(d.Body, func(s api.Stmt) { bad = bad || ast.CheckStmt(s) != api.OK }, func(e api.Expr) { bad = bad || ast.CheckExpr(e) != api.OK })
		}
		if bad && ast.Check(p) == api.OK {
			t.Errorf("%s: valid, but a part is not", way)
		}
	})
}

// moved is a copy with other Lines.
func moved(p api.Program) api.Program {
	p = copied(p, false)
	for i := range p.Globals {
		p.Globals[i].Line = 3 * i
	}
	for i := range p.Funcs {
		p.Funcs[i].Line = 1000 - i
	}
	return p
}

// names is the Names of all expressions of a program.
func names(p api.Program) []string {
	var l []string
	for _, d := range p.Funcs {
		eachPart(d.Body, func(s api.Stmt) {
			for _, e := range slices.Concat(s.Index, s.Expr) {
				l = append(l, ast.Names(e)...)
			}
		}, func(api.Expr) {})
	}
	return l
}

// TestP63Equal: programs that are equal have the same Size, Deep and Names,
// also those that are not valid.
func TestP63Equal(t *testing.T) {
	l := append(append(programs(), largest()...), wrongProgram(), api.Program{})
	for i, p := range l {
		q := moved(p)
		if !ast.Same(p, q) || !ast.Same(q, p) {
			t.Errorf("%d: with other Lines it is not the same", i)
		}
		if ast.Size(p) != ast.Size(q) || ast.Deep(p) != ast.Deep(q) || !slices.Equal(names(p), names(q)) {
			t.Errorf("%d: with other Lines it has others", i)
		}
	}
	for i, p := range l {
		for j, q := range l[i:] {
			if q.Stack = p.Stack; ast.Same(p, q) && (ast.Size(p) != ast.Size(q) || ast.Deep(p) != ast.Deep(q) || !slices.Equal(names(p), names(q))) {
				t.Errorf("program %d is the same as program %d, which has others", i, i+j)
			}
		}
	}
}

// TestP63EqualVaried: where a tree is still the same, so are its Size, Deep and
// Names.
func TestP63EqualVaried(t *testing.T) {
	p := firmware()
	size, deep, all := ast.Size(p), ast.Deep(p), names(p)
	vary(&p, func(way string) {
		same := ast.Size(p) == size && ast.Deep(p) == deep && slices.Equal(names(p), all)
		if ast.Same(p, firmware()) && !same {
			t.Errorf("%s: it is the same, but has others", way)
		}
	})
}
