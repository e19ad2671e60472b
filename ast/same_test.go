package ast_test

import (
	"reflect"
	"strings"
	"testing"

	"lamplighter/api"
	"lamplighter/ast"
)

// linesOnly reports whether a way that was varied leads to a Line.
func linesOnly(way string) bool {
	return strings.Contains(way, ".Line = ")
}

// TestP62SameVaried: programs of which one field, or one element, is other are
// the same only if that is a Line.
func TestP62SameVaried(t *testing.T) {
	for _, p := range []api.Program{firmware(), wrongProgram()} {
		before := copied(p, true)
		vary(&p, func(way string) {
			want := linesOnly(way)
			if alike(p, before) != want {
				t.Errorf("%s: the reference does not say %v", way, want)
			}
			for _, got := range []bool{ast.Same(p, before), ast.Same(before, p)} {
				if got != want {
					t.Errorf("%s: %v", way, got)
				}
			}
		})
		if !reflect.DeepEqual(copied(p, true), before) {
			t.Error("a program was changed")
		}
	}
}

// TestP62SameParts: the same for expressions and for statements.
func TestP62SameParts(t *testing.T) {
	different := 0
	for _, e := range append(everyExpression(), api.Expr{}, wrongProgram().Funcs[0].Body[0].Index[0]) {
		before := copied(e, true)
		vary(&e, func(way string) {
			if ast.SameExpr(e, before) || ast.SameExpr(before, e) || alike(e, before) {
				t.Errorf("%s is the same", way)
			}
			different++
		})
		if !ast.SameExpr(e, before) {
			t.Errorf("%s is not the same as its copy", text(e))
		}
	}
	for _, s := range append(everyStatement(), api.Stmt{}, wrongProgram().Funcs[0].Body[0]) {
		before := copied(s, true)
		vary(&s, func(way string) {
			want := linesOnly(way)
			if got := ast.SameStmt(s, before); got != want || ast.SameStmt(before, s) != want || alike(s, before) != want {
				t.Errorf("%s: %v", way, got)
			}
			different++
		})
		if !ast.SameStmt(s, before) {
			t.Error("a statement is not the same as its copy")
		}
	}
	if different < 10000 {
		t.Errorf("only %d were varied", different)
	}
}

// TestP62SameEach: one field alone makes programs different.
func TestP62SameEach(t *testing.T) {
	for _, x := range []struct {
		name   string
		same   bool
		change func(p *api.Program)
	}{
		{"nothing", true, func(p *api.Program) {}},
		{"Stack", false, func(p *api.Program) { p.Stack++ }},
		{"the Name of a global", false, func(p *api.Program) { p.Globals[1].Name = "days" }},
		{"the Type of a global", false, func(p *api.Program) { p.Globals[1].Type = api.TyU32 }},
		{"the Len of a global", false, func(p *api.Program) { p.Globals[1].Len++ }},
		{"Len 1 of a scalar", false, func(p *api.Program) { p.Globals[0].Len = 1 }},
		{"the Init of a global", false, func(p *api.Program) { p.Globals[1].Init[2]++ }},
		{"Init 0 of a scalar", false, func(p *api.Program) { p.Globals[2].Init = []uint32{0} }},
		{"the Line of a global", true, func(p *api.Program) { p.Globals[1].Line = -5 }},
		{"the order of globals", false, func(p *api.Program) { p.Globals[0], p.Globals[1] = p.Globals[1], p.Globals[0] }},
		{"no globals", false, func(p *api.Program) { p.Globals = nil }},
		{"the Name of a gate", false, func(p *api.Program) { p.Gates[2].Name = "x" }},
		{"Read", false, func(p *api.Program) { p.Gates[2].Read = false }},
		{"Write", false, func(p *api.Program) { p.Gates[2].Write = false }},
		{"the Line of a gate", true, func(p *api.Program) { p.Gates[2].Line++ }},
		{"the order of gates", false, func(p *api.Program) { p.Gates[0], p.Gates[1] = p.Gates[1], p.Gates[0] }},
		{"the Kind of a function", false, func(p *api.Program) { p.Funcs[1].Kind = api.KindOn }},
		{"the Name of a function", false, func(p *api.Program) { p.Funcs[1].Name = "busy" }},
		{"the Name of a Param", false, func(p *api.Program) { p.Funcs[0].Params[1].Name = "x" }},
		{"the Type of a Param", false, func(p *api.Program) { p.Funcs[0].Params[1].Type = api.TyU8 }},
		{"one Param less", false, func(p *api.Program) { p.Funcs[0].Params = p.Funcs[0].Params[:1] }},
		{"On", false, func(p *api.Program) { p.Funcs[3].On++ }},
		{"Prio", false, func(p *api.Program) { p.Funcs[3].Prio++ }},
		{"the Line of a function", true, func(p *api.Program) { p.Funcs[3].Line = 0 }},
		{"the order of functions", false, func(p *api.Program) { p.Funcs[3], p.Funcs[4] = p.Funcs[4], p.Funcs[3] }},
		{"a statement less", false, func(p *api.Program) { p.Funcs[2].Body = p.Funcs[2].Body[:4] }},
		{"the Line of a statement", true, func(p *api.Program) { p.Funcs[2].Body[3].Then[0].Then[0].Line = 1000 }},
		{"a name of a section", false, func(p *api.Program) { p.Funcs[2].Body[3].Then[0].Names[1] = "x" }},
		{"the order of the names of a section", false, func(p *api.Program) { p.Funcs[2].Body[3].Then[0].Names = []string{"hours", "lit"} }},
		{"N of a statement", false, func(p *api.Program) { p.Funcs[2].Body[0].N = 14 }},
		{"N of an expression", false, func(p *api.Program) { p.Funcs[2].Body[3].Then[2].Expr[0].Args[1].N = 254 }},
		{"Then and Else", false, func(p *api.Program) {
			s := &p.Funcs[0].Body[0]
			s.Then, s.Else = s.Else, s.Then
		}},
		{"Then as Else", false, func(p *api.Program) {
			s := &p.Funcs[4].Body[0]
			s.Then, s.Else = s.Else, s.Then
		}},
		{"the index as Expr", false, func(p *api.Program) {
			s := &p.Funcs[2].Body[3].Then[0].Then[0]
			s.Index, s.Expr = s.Expr, s.Index
		}},
		{"empty lists", true, func(p *api.Program) {
			p.Globals[2].Init, p.Funcs[1].Body, p.Funcs[1].Params, p.Funcs[2].Body[0].Then = []uint32{}, []api.Stmt{}, []api.Param{}, []api.Stmt{}
		}},
	} {
		p := firmware()
		x.change(&p)
		for _, got := range []bool{ast.Same(p, firmware()), ast.Same(firmware(), p)} {
			if got != x.same {
				t.Errorf("%s: %v", x.name, got)
			}
		}
	}
}

// TestP62SamePairs: of many different expressions and statements each is the
// same as itself alone.
func TestP62SamePairs(t *testing.T) {
	exprs, stmts := append(everyExpression(), api.Expr{}), append(everyStatement(), api.Stmt{})
	for i, a := range exprs {
		for j, b := range exprs {
			if got := ast.SameExpr(a, b); got != alike(a, b) || got != (i == j) {
				t.Errorf("expressions %d and %d: %v", i, j, got)
			}
		}
	}
	for i, a := range stmts {
		for j, b := range stmts {
			want := alike(a, b)
			if got := ast.SameStmt(a, b); got != want || i == j && !got {
				t.Errorf("statements %d and %d: %v", i, j, got)
			}
			if got := ast.Same(with(a), with(b)); got != want {
				t.Errorf("programs of statements %d and %d: %v", i, j, got)
			}
		}
	}
}

// TestP62SameMany: programs that were made twice are the same, and others are
// not.
func TestP62SameMany(t *testing.T) {
	l, again := programs(), programs()
	for i := range l {
		for j := max(0, i-3); j < min(len(l), i+3); j++ {
			l[i].Stack, again[j].Stack = 1, 1
			if got := ast.Same(l[i], again[j]); got != alike(l[i], again[j]) || i == j && !got {
				t.Errorf("%d and %d: %v", i, j, got)
			}
		}
	}
}
