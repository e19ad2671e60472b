package show_test

import (
	"fmt"
	"slices"
	"strings"
	"testing"

	"lamplighter/api"
	"lamplighter/ast"
	"lamplighter/parse"
	"lamplighter/show"
)

// exact checks an error, and that nothing is returned beside it; or the text.
func exact(t *testing.T, name, got string, err, want api.Errno, text func() string) {
	t.Helper()
	if err != want || want != api.OK && got != "" {
		t.Errorf("%s: %s, error %d; want error %d", name, short(got), err, want)
	}
	if want == api.OK && got != text() {
		t.Errorf("%s: %s; want %s", name, short(got), short(text()))
	}
}

func exactExpr(t *testing.T, name string, e api.Expr, want api.Errno) {
	t.Helper()
	got, err := show.Expr(e)
	exact(t, name, got, err, want, func() string { return exprText(e) })
}

func exactStmt(t *testing.T, name string, s api.Stmt, want api.Errno) {
	t.Helper()
	got, err := show.Stmt(s)
	exact(t, name, got, err, want, func() string { return stmtText(s) })
	exactProgram(t, name+", in a program", with(s), want)
}

func exactProgram(t *testing.T, name string, p api.Program, want api.Errno) {
	t.Helper()
	got, err := show.Program(p)
	exact(t, name, got, err, want, func() string { return programText(p) })
}

// TestP81Size: 4,000 expressions and statements are printed, and 4,001 are not.
func TestP81Size(t *testing.T) {
	for n, want := range map[int]api.Errno{3999: api.OK, 4000: api.OK, 4001: api.ErrLong, 4002: api.ErrLong, 70000: api.ErrLong} {
		exactExpr(t, "an expression", wide(n), want)
		exactStmt(t, "a return", returns(wide(n-1)), want)
		exactStmt(t, "an Index", setAt("x", wide(n-2), num(1)), want)
		exactStmt(t, "a Then", when(num(1), many(n-2), nil), want)
		exactStmt(t, "an Else", when(num(1), nil, many(n-2)), want)
		exactStmt(t, "both", when(num(1), many(7), many(n-9)), want)
		exactStmt(t, "a section", atomic([]string{"x", "y"}, many(n-1)...), want)
		exactProgram(t, "main", with(many(n)...), want)
		exactProgram(t, "several functions", api.Program{Stack: 1, Funcs: []api.Decl{begins(many(n - 200)...), function("f", nil, many(150)...), function("g", nil), on(1, 1, many(50)...)}}, want)
	}
}

// TestP81SizeBack: what is just not too great is parsed back.
func TestP81SizeBack(t *testing.T) {
	for _, p := range []api.Program{with(many(4000)...), with(returns(wide(3999))), with(while(wide(1999), when(num(1), many(1000), many(998)))), with(slices.Repeat([]api.Stmt{set("x", num(1))}, 2000)...)} {
		if n := ast.Size(p); n != 4000 {
			t.Errorf("the size is %d", n)
		}
		showsProgram(t, p, programText(p))
	}
}

// deeper is what has something one level deeper in it.
func deeper() map[string]func(e api.Expr) api.Expr {
	return map[string]func(e api.Expr) api.Expr{
		"index": func(e api.Expr) api.Expr { return index("x", e) },
		"call":  func(e api.Expr) api.Expr { return call("f", num(1), e) },
		"un":    func(e api.Expr) api.Expr { return un(2, e) },
		"left":  func(e api.Expr) api.Expr { return bin(3, e, num(1)) },
		"right": func(e api.Expr) api.Expr { return bin(3, num(1), e) },
		"cast":  func(e api.Expr) api.Expr { return cast(2, e) },
	}
}

func deeperStmt() map[string]func(l ...api.Stmt) api.Stmt {
	return map[string]func(l ...api.Stmt) api.Stmt{
		"then":   func(l ...api.Stmt) api.Stmt { return when(num(1), l, nil) },
		"else":   func(l ...api.Stmt) api.Stmt { return when(num(1), many(1), l) },
		"while":  func(l ...api.Stmt) api.Stmt { return while(num(1), l...) },
		"atomic": func(l ...api.Stmt) api.Stmt { return atomic([]string{"x"}, append(many(2), l...)...) },
	}
}

// TestP81Depth: nested 60 deep is printed, and 61 is not, with each kind.
func TestP81Depth(t *testing.T) {
	for deep, want := range map[int]api.Errno{59: api.OK, 60: api.OK, 61: api.ErrLong, 62: api.ErrLong, 300: api.ErrLong} {
		for name, wrap := range deeper() {
			e, inner := num(1), api.Expr{}
			for range deep - 1 {
				e, inner = wrap(e), e
			}
			exactExpr(t, name, e, want)
			exactStmt(t, name+", returned", returns(inner), want)
			if want == api.OK {
				shows(t, e, exprText(e))
			}
		}
		for name, wrap := range deeperStmt() {
			s := plain(api.StLevel, 1)
			for range deep - 1 {
				s = wrap(s)
			}
			exactStmt(t, name, s, want)
			if want == api.OK {
				showsStmt(t, s, stmtText(s))
				showsProgram(t, with(s), programText(with(s)))
			}
		}
	}
}

// TestP81DeepIndent: the innermost of 60 blocks is indented by 118 blanks, and
// what follows them is not.
func TestP81DeepIndent(t *testing.T) {
	s := plain(api.StLevel, 1)
	for range 59 {
		s = while(named("x"), s)
	}
	got, err := show.Stmt(s)
	if l := strings.Split(got, "\n"); err != api.OK || len(l) != 120 || l[59] != strings.Repeat(" ", 118)+"level 1;" || l[58] != strings.Repeat(" ", 116)+"while (x) {" || l[60] != strings.Repeat(" ", 116)+"}" || l[118] != "}" {
		t.Errorf("%s, error %d", got, err)
	}
	showsProgram(t, with(s.Then[0], plain(api.StLevel, 2)), "stack 1;\nmain {\n"+got[len("while (x) {\n"):len(got)-2]+"  level 2;\n}\n")
}

// TestP81Shared: a tree that has the same parts again and again, or itself.
func TestP81Shared(t *testing.T) {
	e, s := num(1), plain(api.StLevel, 1)
	for range 59 {
		e = bin(1, e, e)
		s = when(num(1), []api.Stmt{s, s}, []api.Stmt{s})
	}
	exactExpr(t, "an expression", e, api.ErrLong)
	exactStmt(t, "a statement", s, api.ErrLong)
	endless := api.Expr{Kind: api.ExUn, Op: 1, Args: make([]api.Expr, 1)}
	endless.Args[0] = endless
	exactExpr(t, "an endless one", endless, api.ErrLong)
	exactStmt(t, "a return of an endless one", returns(endless), api.ErrLong)
	loop := while(num(1), plain(api.StLevel, 1))
	loop.Then[0] = loop
	exactStmt(t, "an endless statement", loop, api.ErrLong)
	few := bin(1, num(1), num(2))
	shows(t, bin(1, few, few), "1 + 2 + (1 + 2)")
}

// TestP81LongText: a tree that is valid is printed, also if its text is longer
// than a source may be.
func TestP81LongText(t *testing.T) {
	name := strings.Repeat("long_name_", 20000)
	exactExpr(t, "a long name", index(name, named(name)), api.OK)
	exactStmt(t, "a long name", atomic([]string{name, name}, set(name, call(name))), api.OK)
	s := plain(api.StEnable, 31)
	for range 40 {
		s = while(num(1), s, s)
		if ast.CheckStmt(s) != api.OK {
			s = s.Then[0]
			break
		}
	}
	p := with(s)
	for i := range 20000 {
		p.Globals = append(p.Globals, global(1+i%4, fmt.Sprint("g", i), i%3, uint32(i)))
	}
	exactProgram(t, "many globals", p, api.OK)
	got, _ := show.Program(p)
	if _, f := parse.Parse(got); len(got) <= api.MaxSource || f != (api.Fault{Err: api.ErrLong}) {
		t.Errorf("%d bytes: %+v", len(got), f)
	}
}

// TestP82Longest: a text of just as many bytes as a source may have is parsed
// back.
func TestP82Longest(t *testing.T) {
	p := with(set("x", num(1)))
	plain := len(programText(p))
	for _, more := range []int{0, 1} {
		p.Funcs[0].Body[0].Name = strings.Repeat("x", api.MaxSource-plain+1+more)
		got, err := show.Program(p)
		back, f := parse.Parse(got)
		if err != api.OK || len(got) != api.MaxSource+more || ast.Same(back, p) != (more == 0) || (f == api.Fault{}) != (more == 0) {
			t.Errorf("%d bytes, error %d, %+v", len(got), err, f)
		}
	}
}
