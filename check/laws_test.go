package check_test

import (
	"reflect"
	"slices"
	"sync"
	"testing"

	"lamplighter/api"
	"lamplighter/ast"
	"lamplighter/check"
)

// expectedErr reports whether an expression is not valid.
func expectedErr(e api.Expr) bool {
	return ast.CheckExpr(e) != api.OK
}

// without calls f with statements of which one that is not a let is taken away,
// in each way.
func without(l []api.Stmt, f func([]api.Stmt)) {
	for i, s := range l {
		if s.Kind != api.StLet {
			f(slices.Delete(slices.Clone(l), i, i+1))
		}
		for _, part := range []func(s *api.Stmt) *[]api.Stmt{
			func(s *api.Stmt) *[]api.Stmt { return &s.Then },
			func(s *api.Stmt) *[]api.Stmt { return &s.Else },
		} {
			without(*part(&s), func(less []api.Stmt) {
				changed := slices.Clone(l)
				*part(&changed[i]) = less
				f(changed)
			})
		}
	}
}

// TestP93Less: a correct program remains correct without a statement that is
// not a let.
func TestP93Less(t *testing.T) {
	checked := 0
	for i, p := range programs() {
		for at, d := range p.Funcs {
			without(d.Body, func(body []api.Stmt) {
				if checked++; i > 250 {
					return
				}
				q := p
				q.Funcs = slices.Clone(p.Funcs)
				q.Funcs[at].Body = body
				if f := check.Check(q); f != (api.Fault{}) {
					t.Errorf("program %d, without a statement of function %d: %+v", i, at, f)
				}
			})
		}
	}
	if checked < 3000 {
		t.Errorf("only %d", checked)
	}
}

// TestP93LessNamed: some of these, and what needs the let that is taken away.
func TestP93LessNamed(t *testing.T) {
	findsAll(t, []finding{
		{0, 0, "stack 9; u8 g; func f() { } main { u8 a = 1; f(); atomic (g) { a = 2; } if (a) { u8 b = a; b = 1; } a = 3; }"},
		{0, 0, "stack 9; u8 g; func f() { } main { u8 a = 1; atomic (g) { a = 2; } if (a) { u8 b = a; b = 1; } a = 3; }"},
		{0, 0, "stack 9; u8 g; func f() { } main { u8 a = 1; f(); if (a) { u8 b = a; b = 1; } a = 3; }"},
		{0, 0, "stack 9; u8 g; func f() { } main { u8 a = 1; f(); atomic (g) { a = 2; } a = 3; }"},
		{0, 0, "stack 9; u8 g; func f() { } main { u8 a = 1; f(); atomic (g) { } if (a) { u8 b = a; } }"},
		{api.ErrName, 1, "stack 9; u8 g; func f() { } main { f(); atomic (g) { a = 2; } if (a) { u8 b = a; b = 1; } a = 3; }"},
		{api.ErrName, 1, "stack 9; u8 g; func f() { } main { u8 a = 1; f(); atomic (g) { a = 2; } if (a) { b = 1; } a = 3; }"},
	})
}

// TestP93Order: with its functions in another order a correct program remains
// correct, and its tables are the same but for the numbers.
func TestP93Order(t *testing.T) {
	r := numbers(6)
	for i, p := range programs() {
		before, f := check.Tables(p)
		if f != (api.Fault{}) {
			t.Fatalf("%+v", f)
		}
		for range 3 {
			order := make([]int, len(p.Funcs))
			for i := range order {
				order[i] = i
				j := r.below(i + 1)
				order[i], order[j] = order[j], order[i]
			}
			q := p
			q.Funcs = nil
			want := api.Tables{Cells: before.Cells, Ports: before.Ports}
			for _, at := range order {
				q.Funcs = append(q.Funcs, p.Funcs[at])
				want.Funcs = append(want.Funcs, before.Funcs[at])
				first := 0
				for _, d := range p.Funcs[:at] {
					first += len(kinds(statements(d), 10))
				}
				want.Atoms = append(want.Atoms, before.Atoms[first:first+len(kinds(statements(p.Funcs[at]), 10))]...)
			}
			if got, f := check.Tables(q); f != (api.Fault{}) || !reflect.DeepEqual(copied(got), copied(want)) {
				t.Errorf("program %d in order %v: %+v, %+v, want %+v", i, order, got, f, want)
			}
		}
	}
}

// TestP93OrderFaults: what is not correct has the same error with its functions
// in another order, if there is one violation alone.
func TestP93OrderFaults(t *testing.T) {
	r := numbers(8)
	checked := 0
	for checked < 200 {
		p := r.muddled()
		if l := violations(p); len(l) != 1 || l[0].Err == api.ErrThere {
			continue
		}
		checked++
		f := check.Check(p)
		slices.Reverse(p.Funcs)
		if g := check.Check(p); f != g {
			t.Errorf("%+v, and turned round %+v", f, g)
		}
	}
}

// TestT6Any: every call returns, whatever it is given, with the same result
// each time.
func TestT6Any(t *testing.T) {
	endless := api.Expr{Kind: api.ExIndex, Name: "x", Args: make([]api.Expr, 1)}
	endless.Args[0] = endless
	loop := api.Stmt{Kind: api.StIf, Expr: one(endless), Then: make([]api.Stmt, 1), Else: make([]api.Stmt, 2)}
	loop.Then[0], loop.Else[0], loop.Else[1] = loop, loop, loop
	for _, p := range []api.Program{
		{}, {Funcs: []api.Decl{{}, {}}}, {Funcs: []api.Decl{{Kind: 1, Body: []api.Stmt{loop}}}}, {Stack: -1, Globals: make([]api.Global, 5000), Gates: make([]api.Gate, 50)},
		{Stack: 1, Funcs: []api.Decl{begins(returns(endless))}}, {Stack: 1, Funcs: []api.Decl{begins(loop)}}, {Stack: 1, Funcs: []api.Decl{begins(set("u", call("f", endless)))}}, {Stack: 1, Funcs: make([]api.Decl, 200)},
		with(api.Stmt{Kind: api.StSet, Name: "u", Index: make([]api.Expr, 3)}), with(api.Stmt{Kind: api.StAtomic, Then: []api.Stmt{{}}}),
	} {
		f := check.Check(p)
		tables, g := check.Tables(p)
		if f != g || f.Err == api.OK || f.Line != 0 || f.Column != 0 || !reflect.DeepEqual(tables, api.Tables{}) {
			t.Errorf("%+v, %+v, %+v", f, g, tables)
		}
	}
}

// TestT6Together: calls at the same time do not disturb each other.
func TestT6Together(t *testing.T) {
	p := firmware()
	var all sync.WaitGroup
	for range 8 {
		all.Go(func() {
			for range 50 {
				if got, f := check.Tables(p); f != (api.Fault{}) || !reflect.DeepEqual(copied(got), copied(expectedTables(p))) {
					t.Errorf("%+v", f)
				}
			}
		})
	}
	all.Wait()
}
