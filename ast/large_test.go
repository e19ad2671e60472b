package ast_test

import (
	"fmt"
	"slices"
	"testing"

	"lamplighter/api"
	"lamplighter/ast"
)

// negated is an expression that is nested that deep.
func negated(deep int) api.Expr {
	e := num(1)
	for range deep - 1 {
		e = un(api.UnNeg, e)
	}
	return e
}

// wide is an expression of n, which is not nested deep.
func wide(n int) api.Expr {
	if n == 1 {
		return num(1)
	}
	e := call("f")
	for left, n := min(n-1, 8), n-1; left > 0; left-- {
		part := n / left
		e.Args = append(e.Args, wide(part))
		n -= part
	}
	return e
}

// TestP61Many: 4000 expressions and statements are valid, and one more is too
// long, however they are distributed.
func TestP61Many(t *testing.T) {
	for n, want := range map[int]api.Errno{3999: api.OK, 4000: api.OK, 4001: api.ErrLong, 4002: api.ErrLong, 70000: api.ErrLong} {
		checkExpr(t, "an expression", wide(n), want)
		checkStmt(t, "a statement with an Expr", returns(wide(n-1)), want)
		checkStmt(t, "a statement with an Index", setAt("x", wide(n-2), num(1)), want)
		checkStmt(t, "a statement with both", setAt("x", wide(n/2), wide(n-n/2-1)), want)
		checkStmt(t, "a Then", when(num(1), many(n-2), nil), want)
		checkStmt(t, "an Else", when(num(1), nil, many(n-2)), want)
		checkStmt(t, "both", when(num(1), many(7), many(n-9)), want)
		checkStmt(t, "a section", atomic([]string{"x", "y", "z"}, many(n-1)...), want)
		checkProgram(t, "main", with(many(n)...), want)
		checkProgram(t, "several functions", api.Program{Stack: 1, Funcs: []api.Decl{begins(many(n - 200)...), function("f", nil, many(150)...), function("g", nil), on(1, 1, many(50)...)}}, want)
		checkProgram(t, "statements with expressions", with(append(slices.Repeat([]api.Stmt{set("x", num(1))}, n/2), many(n%2)...)...), want)
		if got := ast.Size(with(returns(wide(n - 1)))); got != n {
			t.Errorf("Size is %d, want %d", got, n)
		}
	}
}

// within each of these is something one level deeper.
func deeper() map[string]func(e api.Expr) api.Expr {
	return map[string]func(e api.Expr) api.Expr{
		"index":   func(e api.Expr) api.Expr { return index("x", e) },
		"call":    func(e api.Expr) api.Expr { return call("f", e) },
		"call, 8": func(e api.Expr) api.Expr { return call("f", num(1), num(1), num(1), num(1), num(1), num(1), num(1), e) },
		"un":      func(e api.Expr) api.Expr { return un(2, e) },
		"left":    func(e api.Expr) api.Expr { return bin(3, e, num(1)) },
		"right":   func(e api.Expr) api.Expr { return bin(3, num(1), e) },
		"cast":    func(e api.Expr) api.Expr { return cast(2, e) },
	}
}

func deeperStmt() map[string]func(l ...api.Stmt) api.Stmt {
	return map[string]func(l ...api.Stmt) api.Stmt{
		"then":   func(l ...api.Stmt) api.Stmt { return when(num(1), l, nil) },
		"else":   func(l ...api.Stmt) api.Stmt { return when(num(1), many(1), l) },
		"while":  func(l ...api.Stmt) api.Stmt { return while(num(1), l...) },
		"atomic": func(l ...api.Stmt) api.Stmt { return atomic([]string{"x"}, append(many(2), l...)...) },
	}
}

// TestP61Nested: nested 60 deep is valid, and 61 is too long, with each kind.
func TestP61Nested(t *testing.T) {
	for deep, want := range map[int]api.Errno{59: api.OK, 60: api.OK, 61: api.ErrLong, 62: api.ErrLong, 300: api.ErrLong} {
		for name, wrap := range deeper() {
			e := num(1)
			for range deep - 1 {
				e = wrap(e)
			}
			checkExpr(t, name, e, want)
		}
		for name, wrap := range deeperStmt() {
			s := plain(api.StLevel, 1)
			for range deep - 1 {
				s = wrap(s)
			}
			checkStmt(t, name, s, want)
			if got := ast.Deep(with(s)); got != deep {
				t.Errorf("%s: Deep is %d, want %d", name, got, deep)
			}
		}
	}
}

// TestP61NestedTogether: an expression in a statement is one level deeper than
// the statement.
func TestP61NestedTogether(t *testing.T) {
	for around := range 61 {
		for _, deep := range []int{59, 60, 61} {
			inner := deep - around - 1 // of the expression
			if inner < 1 {
				continue
			}
			want := api.OK
			if deep > 60 {
				want = api.ErrLong
			}
			e := negated(inner)
			for _, s := range []api.Stmt{let("x", 1, e), set("x", e), setAt("x", e, num(1)), setAt("x", num(1), e), when(e, nil, nil), while(e), returns(e)} {
				for range around {
					s = atomic([]string{"x"}, s)
				}
				checkStmt(t, fmt.Sprint("statements ", around, ", expressions ", inner), s, want)
				if got := ast.Deep(with(many(1)[0], s)); got != deep {
					t.Errorf("Deep is %d, want %d", got, deep)
				}
			}
		}
	}
}

// TestP61Shared: a tree that has the same parts again and again has too many,
// however little memory it takes.
func TestP61Shared(t *testing.T) {
	e, s := num(1), plain(api.StLevel, 1)
	for range 59 {
		e = bin(1, e, e)
		s = when(num(1), []api.Stmt{s, s}, []api.Stmt{s})
	}
	if got := ast.CheckExpr(e); got != api.ErrLong {
		t.Errorf("CheckExpr: %d", got)
	}
	for _, s := range []api.Stmt{s, returns(e), {Kind: 0, Then: []api.Stmt{s}}} {
		if got := ast.CheckStmt(s); got != api.ErrLong {
			t.Errorf("CheckStmt: %d", got)
		}
		if got := ast.Check(with(s)); got != api.ErrLong {
			t.Errorf("Check: %d", got)
		}
	}
	endless := api.Expr{Kind: api.ExUn, Op: 1, Args: make([]api.Expr, 1)}
	endless.Args[0] = endless
	if got := ast.CheckExpr(endless); got != api.ErrLong {
		t.Errorf("CheckExpr of an endless one: %d", got)
	}
}

// TestP61Bound: what is nested as deep as the document allows.
func TestP61Bound(t *testing.T) {
	const deep = 1 << 16
	e, s := named("x"), plain(api.StLevel, 1)
	for range deep - 2 {
		e, s = un(1, e), while(num(1), s)
	}
	for _, p := range []api.Program{with(returns(e)), with(s, s)} {
		size, most := ast.Size(p), ast.Deep(p)
		if p.Funcs[0].Body[0].Kind == api.StReturn && (size != deep || most != deep) || len(p.Funcs[0].Body) == 2 && (size != 4*(deep-2)+2 || most != deep-1) {
			t.Errorf("Size %d, Deep %d", size, most)
		}
		if e := ast.Check(p); e != api.ErrLong {
			t.Errorf("error %d", e)
		}
		if !ast.Same(p, p) {
			t.Error("it is not the same as itself")
		}
	}
	if got := ast.Names(e); !slices.Equal(got, []string{"x"}) || !ast.SameExpr(e, e) || !ast.SameStmt(s, s) {
		t.Errorf("Names are %v", got)
	}
	if ast.SameExpr(e, un(1, e)) || ast.SameStmt(s, while(num(1), s)) {
		t.Error("one that is nested deeper is the same")
	}
}
