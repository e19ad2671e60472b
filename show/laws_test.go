package show_test

import (
	"reflect"
	"slices"
	"strings"
	"testing"

	"lamplighter/api"
	"lamplighter/ast"
	"lamplighter/lex"
	"lamplighter/parse"
	"lamplighter/show"
)

// printed is the text of a program that is valid.
func printed(t *testing.T, p api.Program) string {
	t.Helper()
	s, err := show.Program(p)
	if err != api.OK {
		t.Fatalf("error %d", err)
	}
	return s
}

// TestP73Printed: a tree that is printed is parsed back; what is parsed and
// printed again is the same text.
func TestP73Printed(t *testing.T) {
	for _, p := range programs() {
		s := printed(t, p)
		back, f := parse.Parse(s)
		if f != (api.Fault{}) || !ast.Same(back, p) {
			t.Fatalf("%s is parsed into %+v, %+v", short(s), back, f)
		}
		if again := printed(t, back); again != s {
			t.Fatalf("%s, and again %s", short(s), short(again))
		}
	}
}

// TestP73Sources: sources that are written otherwise than they are printed: what
// they are parsed into is printed, and parsed into the same.
func TestP73Sources(t *testing.T) {
	for source, want := range map[string]string{
		"stack 9;":                            "stack 9;\n",
		"stack 0x10 ; // words\n\n":           "stack 16;\n",
		"stack 9;main{}":                      "stack 9;\nmain {\n}\n",
		"stack 9; main {} u8 x; port read y;": "stack 9;\nu8 x;\nport read y;\nmain {\n}\n",
		"stack 9; on 0x1f prio 0xf { } u8 b ; func f ( ) { } u8 a [ 3 ] = 1,0x2,003 ;": "stack 9;\nu8 b;\nu8 a[3] = 1, 2, 3;\non 31 prio 15 {\n}\nfunc f() {\n}\n",
		"stack 9; main { if(x){}else{} if (x) { } else { y(); } }":                     "stack 9;\nmain {\n  if (x) {\n  }\n  if (x) {\n  } else {\n    y();\n  }\n}\n",
		"stack 9; main { x=((1)+((2)))*(3); y=(1*2)+3; z=- (-(1)); }":                  "stack 9;\nmain {\n  x = (1 + 2) * 3;\n  y = 1 * 2 + 3;\n  z = --1;\n}\n",
		"stack 9; main { x=-(1+2)-(-3)-(4-5); y=!(f(1,(2))); z=u8((x)); }":             "stack 9;\nmain {\n  x = -(1 + 2) - -3 - (4 - 5);\n  y = !f(1, 2);\n  z = u8(x);\n}\n",
		"stack 9; func f(u8 x,u16 y){while(x<y){atomic(x,y){x=y;}}return(x);}":         "stack 9;\nfunc f(u8 x, u16 y) {\n  while (x < y) {\n    atomic (x, y) {\n      x = y;\n    }\n  }\n  return x;\n}\n",
	} {
		p, f := parse.Parse(source)
		if f != (api.Fault{}) {
			t.Fatalf("%q: %+v", source, f)
		}
		showsProgram(t, p, want)
	}
}

// TestP73Tokens: the tokens of a text alone are the same tree, whatever is
// between them.
func TestP73Tokens(t *testing.T) {
	for _, p := range programs() {
		l, f := lex.All(printed(t, p))
		if f != (api.Fault{}) {
			t.Fatalf("%+v", f)
		}
		if back, f := parse.Parse(lex.Join(l)); f != (api.Fault{}) || !ast.Same(back, p) {
			t.Fatalf("%s: %+v", short(lex.Join(l)), f)
		}
	}
}

// TestP82Back: expressions and statements are parsed back, too; those with a
// Line have that of the text.
func TestP82Back(t *testing.T) {
	r := numbers(5)
	for range 2000 {
		e := r.expr(7)
		s, err := show.Expr(e)
		if err != ast.CheckExpr(e) {
			t.Fatalf("error %d", err)
		}
		if back, f := parse.Expr(s); err == api.OK && (f != api.Fault{} || !ast.SameExpr(back, e)) {
			t.Fatalf("%s is parsed into %+v, %+v", short(s), back, f)
		}
	}
	for range 1000 {
		l := r.stmts(4, 6)
		text := ""
		for _, x := range l {
			s, err := show.Stmt(x)
			if err != ast.CheckStmt(x) {
				t.Fatalf("error %d", err)
			}
			text += s
		}
		back, f := parse.Stmts(text)
		valid := !slices.ContainsFunc(l, func(s api.Stmt) bool { return ast.CheckStmt(s) != api.OK })
		if valid && (f != api.Fault{} || !slices.EqualFunc(back, l, ast.SameStmt)) {
			t.Fatalf("%s is parsed into %+v, %+v", short(text), back, f)
		}
	}
}

// TestP82BackLines: what is parsed back has a statement on each line that begins
// with one, in their order.
func TestP82BackLines(t *testing.T) {
	p, f := parse.Parse(printed(t, firmware()))
	if f != (api.Fault{}) {
		t.Fatalf("%+v", f)
	}
	main := p.Funcs[2]
	got := []int{p.Globals[0].Line, p.Globals[3].Line, p.Gates[0].Line, p.Gates[2].Line, p.Funcs[0].Line, p.Funcs[0].Body[0].Else[0].Line, main.Line, main.Body[3].Line, main.Body[3].Then[0].Then[1].Line, main.Body[4].Line, p.Funcs[4].Line}
	if !slices.Equal(got, []int{2, 5, 6, 8, 9, 13, 18, 22, 25, 30, 35}) {
		t.Errorf("%v", got)
	}
}

// TestP82Different: different trees have different texts, and equal ones the
// same.
func TestP82Different(t *testing.T) {
	exprs := everyExpression()
	for _, x := range binaries() {
		for _, y := range binaries() {
			a, b, c := named("a"), named("b"), named("c")
			exprs = append(exprs, bin(x, bin(y, a, b), c), bin(x, a, bin(y, b, c)), un(1, bin(x, a, bin(y, b, c))), bin(x, un(1, a), bin(y, b, c)), bin(x, un(1, bin(y, a, b)), c))
		}
	}
	texts := map[string]api.Expr{}
	for _, e := range exprs {
		s, _ := show.Expr(e)
		if other, is := texts[s]; is && !ast.SameExpr(e, other) {
			t.Errorf("%q is the text of %+v and of %+v", s, e, other)
		}
		texts[s] = e
	}
	if len(texts) < 1000 {
		t.Errorf("only %d texts", len(texts))
	}
	stmts := map[string]api.Stmt{}
	for _, x := range everyStatement() {
		s, _ := show.Stmt(x)
		if other, is := stmts[s]; is && !ast.SameStmt(x, other) {
			t.Errorf("%q is the text of %+v and of %+v", s, x, other)
		}
		stmts[s] = x
	}
	all := map[string]api.Program{}
	for _, p := range programs() {
		s := printed(t, p)
		if other, is := all[s]; is && !ast.Same(p, other) {
			t.Errorf("%s is the text of two programs", short(s))
		}
		all[s] = p
	}
}

// TestP82DifferentVaried: a tree of which one thing was changed has another
// text, unless it is the same tree.
func TestP82DifferentVaried(t *testing.T) {
	different := 0
	for _, p := range []api.Program{firmware(), with(everyStatement()...)} {
		before, s := copied(p), printed(t, p)
		vary(&p, func(way string) {
			got, err := show.Program(p)
			if err != api.OK {
				return
			}
			if same := ast.Same(p, before); same != (got == s) {
				t.Errorf("%s: the same tree %v, the same text %v", way, same, got == s)
			} else if !same {
				different++
			}
		})
		if !reflect.DeepEqual(copied(p), before) {
			t.Error("a program was changed")
		}
	}
	if different < 500 {
		t.Errorf("only %d", different)
	}
}

// TestP82Similar: trees that are nearly the same.
func TestP82Similar(t *testing.T) {
	x, one := named("x"), plain(api.StLevel, 1)
	for _, pair := range [][2]api.Stmt{
		{when(x, []api.Stmt{when(x, nil, []api.Stmt{one})}, nil), when(x, []api.Stmt{when(x, nil, nil)}, []api.Stmt{one})},
		{when(x, []api.Stmt{one}, nil), when(x, nil, []api.Stmt{one})},
		{when(x, nil, nil), while(x)},
		{while(x, while(x), one), while(x, while(x, one))},
		{atomic([]string{"x", "y"}), atomic([]string{"y", "x"})},
		{atomic([]string{"x"}, atomic([]string{"y"})), atomic([]string{"x", "y"})},
		{set("x", index("x", x)), setAt("x", x, x)},
		{calls("x", x), set("x", x)},
		{returns(un(api.UnNeg, num(1))), returns(num(4294967295))},
		{returns(call("x", x)), returns(index("x", x))},
		{returns(cast(api.TyU8, x)), returns(call("u8x", x))},
		{plain(api.StEnable, 1), plain(api.StDisable, 1)},
		{let("x", api.TyU32, x), let("x", api.TyI32, x)},
		{let("x", api.TyU32, x), set("x", x)},
	} {
		a, e := show.Stmt(pair[0])
		b, f := show.Stmt(pair[1])
		if e != api.OK || f != api.OK || a == b {
			t.Errorf("%q, error %d; %q, error %d", a, e, b, f)
		}
	}
	p, q := api.Program{Stack: 1, Globals: []api.Global{global(1, "x", 0)}}, api.Program{Stack: 1, Globals: []api.Global{global(1, "x", 0, 0)}}
	if printed(t, p) == printed(t, q) {
		t.Error("a scalar without a value has the text of one with 0")
	}
	p.Globals[0].Len = 1
	if q.Globals[0].Init = nil; printed(t, p) == printed(t, q) {
		t.Error("an array of one has the text of a scalar")
	}
}

// TestP82Symbols: no two operators have one symbol, and no two types one word;
// all are tokens.
func TestP82Symbols(t *testing.T) {
	seen := map[string]int{}
	for op := range 40 {
		if s := show.Sign(op); s != "" {
			l, f := lex.All(s)
			if seen[s]++; seen[s] > 1 || f != (api.Fault{}) || len(l) != 1 || l[0].Kind != api.TokSign {
				t.Errorf("Sign(%d) = %q", op, s)
			}
		}
		if (show.Sign(op) != "") != (parse.Level(op) > 0) {
			t.Errorf("Sign(%d) = %q, but its level is %d", op, show.Sign(op), parse.Level(op))
		}
		if s := show.Type(op); s != "" {
			if seen[s]++; seen[s] > 1 || lex.Kind(s) != api.TokKey {
				t.Errorf("Type(%d) = %q", op, s)
			}
		}
		if (show.Type(op) != "") != (ast.Width(op) > 0) {
			t.Errorf("Type(%d) = %q, but its width is %d", op, show.Type(op), ast.Width(op))
		}
	}
	if len(seen) != 20 {
		t.Errorf("%v", seen)
	}
}

// TestT6Unchanged: what is passed is not changed, also not behind the ends of
// its lists, and is not read later.
func TestT6Unchanged(t *testing.T) {
	for _, p := range programs()[:80] {
		before := copied(p)
		if len(p.Funcs) > 0 {
			p.Funcs = append(p.Funcs, api.Decl{Name: "behind"})[:len(p.Funcs)]
		}
		s := printed(t, p)
		first := strings.Clone(s)
		if !reflect.DeepEqual(copied(p), before) {
			t.Fatal("a program was changed")
		}
		if n := len(p.Funcs); n > 0 && p.Funcs[:n+1][n].Name != "behind" {
			t.Fatal("what is behind a list was changed")
		}
		for i := range p.Funcs {
			p.Funcs[i].Name, p.Funcs[i].Body = "", nil
		}
		show.Program(p)
		if s != first || printed(t, before) != s {
			t.Fatal("a text depends on calls ahead")
		}
	}
}
