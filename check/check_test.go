package check_test

import (
	"reflect"
	"slices"
	"testing"

	"lamplighter/api"
	"lamplighter/ast"
	"lamplighter/check"
)

// TestP91Correct: correct programs of all kinds have no fault, and their tables.
func TestP91Correct(t *testing.T) {
	l := programs()
	kinds := map[int]int{}
	for _, p := range l {
		finds(t, "a program", p, api.Fault{})
		for _, d := range p.Funcs {
			for _, s := range statements(d) {
				kinds[s.Kind]++
			}
		}
	}
	for kind := 1; kind <= 10; kind++ {
		if kinds[kind] < 150 {
			t.Errorf("only %d of kind %d", kinds[kind], kind)
		}
	}
}

// TestP91CorrectParts: each expression and statement, wherever it may be.
func TestP91CorrectParts(t *testing.T) {
	for _, e := range everyExpression() {
		body := []api.Stmt{let("x", 1, e), set("u", e), setAt("ul", e, num(1)), setAt("ul", num(1), e), when(e, nil, nil), while(e), returns(e), calls("g", e), atomic([]string{"u"}, set("x", e))}
		finds(t, "an expression", with(body...), api.Fault{})
		finds(t, "an Arg", with(returns(call("g", e)), returns(index("ul", e)), returns(un(1, e)), returns(bin(1, e, e)), returns(cast(1, e))), api.Fault{})
	}
	for _, s := range everyStatement()[:18] {
		finds(t, "a statement", with(s, s, when(num(1), []api.Stmt{s}, []api.Stmt{s}), while(num(1), s)), api.Fault{})
		if s.Kind != api.StReturn && s.Kind != api.StAtomic {
			finds(t, "in a section", with(atomic([]string{"i"}, s, while(num(1), s, when(num(1), []api.Stmt{s}, []api.Stmt{s})))), api.Fault{})
		}
	}
}

// TestP91Scopes: what is in scope, and what a name refers to.
func TestP91Scopes(t *testing.T) {
	findsAll(t, []finding{
		// A local hides a global or a port, from its let to the end of its block.
		{0, 0, "stack 9; u8 a[4]; main { a[1] = 1; u8 a = a[2]; a = a; }"},
		{0, 0, "stack 9; u8 a[4]; main { if (1) { u8 a = 1; a = a + 1; } a[0] = a[1]; }"},
		{0, 0, "stack 9; u8 a[4]; main { if (1) { u8 a = 1; a = 2; } else { a[1] = 2; u8 a = 3; a = 1; } a[0] = 1; }"},
		{0, 0, "stack 9; u8 a[4]; main { while (a[0]) { u8 a = 1; a = 2; } a[0] = a[1]; }"},
		{0, 0, "stack 9; u8 a[4]; main { atomic (a) { u8 a = 1; a = 2; } a[0] = a[1]; }"},
		{0, 0, "stack 9; port read a; main { u8 b = a; u8 a = a; a = b; }"},
		{0, 0, "stack 9; u8 a; port both b; func f(u8 a, u8 b) { a = b; b = a; } main { u8 b = a; u8 a = b; }"},
		{0, 0, "stack 9; u8 a[4]; func f(u8 a) { a = a; } main { a[1] = 1; }"},
		{api.ErrType, 3, "stack 9; u8 a[4];¶main {¶a = 1;¶}"},
		{api.ErrType, 4, "stack 9; u8 a[4];¶main {¶u8 a = 1;¶a[1] = 1;¶}"},
		{api.ErrType, 4, "stack 9; u8 a[4];¶main {¶u8 a = 1;¶a = a[1];¶}"},
		{api.ErrType, 3, "stack 9; u8 a[4];¶main {¶u8 a = a;¶a = 1;¶}"},
		{api.ErrType, 6, "stack 9; u8 a[4];¶main {¶if (1) {¶u8 a = 1;¶} else {¶a = 1;¶}¶}"},
		{api.ErrType, 6, "stack 9; u8 a[4];¶main {¶if (1) {¶u8 a = 1;¶}¶a = 1;¶}"},
		{api.ErrType, 3, "stack 9; u8 a[4]; func f(u8 a) {¶u8 b = a;¶a[0] = b;¶} main { }"},
		{api.ErrType, 2, "stack 9; port both a; func f(u8 b) {¶a[0] = b; } main { }"},
		// Locals of blocks around.
		{0, 0, "stack 9; main { u8 a = 1; while (a) { u8 b = a; if (b) { u8 c = a + b; a = c; } else { u8 c = b; b = c; } atomic (g) { a = b; } } } u8 g;"},
		{api.ErrName, 2, "stack 9; main {¶u8 a = a;¶}"},
		{api.ErrName, 2, "stack 9; main {¶a = 1;¶u8 a = 2;¶}"},
		{api.ErrName, 3, "stack 9; main { if (1) {¶u8 a = 1; }¶a = 1;¶}"},
		{api.ErrName, 3, "stack 9; main { while (1) {¶u8 a = 1; }¶a = 1;¶}"},
		{api.ErrName, 3, "stack 9; u8 g; main { atomic (g) {¶u8 a = 1; }¶a = 1;¶}"},
		{api.ErrName, 3, "stack 9; main { if (1) {¶u8 a = 1; } else {¶a = 1; }¶}"},
		{api.ErrName, 3, "stack 9; main { if (1) {¶} else {¶while (a) { u8 a = 1; } }¶}"},
		{api.ErrName, 2, "stack 9; main { while (1) {¶if (a) { } u8 a = 1; } }"},
		{api.ErrName, 2, "stack 9; func f(u8 a) { } main {¶a = 1; }"},
		{api.ErrName, 2, "stack 9; func f() { u8 a = 1; } main {¶a = 1; }"},
		{api.ErrName, 2, "stack 9; main { u8 a = 1; } on 1 prio 1 {¶a = 1; }"},
		// A let of a name that is in scope, and of one that is not.
		{api.ErrThere, 3, "stack 9; main { u8 a = 1;¶if (1) {¶u8 a = 2;¶} }"},
		{api.ErrThere, 2, "stack 9; main { u8 a = 1;¶u16 a = 2; }"},
		{api.ErrThere, 2, "stack 9; func f(u8 a) {¶u8 a = 1; } main { }"},
		{api.ErrThere, 3, "stack 9; func f(u8 b, u8 a) { while (1) {¶if (1) { } else {¶u8 a = 1; } } } main { }"},
		{api.ErrThere, 4, "stack 9; u8 g; main { u8 a = 1; while (a) {¶u8 b = 1;¶atomic (g) {¶u8 a = b; } } }"},
		{0, 0, "stack 9; main { if (1) { u8 a = 1; } u8 a = 2; }"},
		{0, 0, "stack 9; main { if (1) { u8 a = 1; } else { u8 a = 1; } while (1) { u8 a = 1; if (a) { u8 b = 1; } u8 b = 2; } u8 a = 2; }"},
		{0, 0, "stack 9; func f(u8 a) { u8 b = 1; } func g(u8 b) { u8 a = 1; } main { u8 a = 1; u8 b = 1; } on 1 prio 1 { u8 a = 1; }"},
		// A local or a global may have the name of a function, if that is one of both.
		{0, 0, "stack 9; func f() { } main { u8 f = f(); f = f() + f; f(); }"},
		{0, 0, "stack 9; func f(u8 f) { f = f; } main { f(1); }"},
		{api.ErrName, 2, "stack 9; func f() { } main {¶u8 g = f; }"},
		{api.ErrName, 2, "stack 9; func f() { } main {¶f = 1; }"},
		{api.ErrName, 2, "stack 9; u8 x; main {¶x(); }"},
		{api.ErrName, 2, "stack 9; port read x; main {¶x(); }"},
		{api.ErrName, 3, "stack 9; main {¶u8 x = 1;¶x(); }"},
	})
}

// TestP91Calls: functions are called ahead of their text and behind it, from
// main, from handlers and from each other.
func TestP91Calls(t *testing.T) {
	findsAll(t, []finding{
		{0, 0, "stack 9; func f() { g(1); h(); } main { f(); g(2); h(); } func g(u8 x) { h(); } on 1 prio 1 { f(); g(h()); } func h() { }"},
		{0, 0, "stack 9; main { u8 x = f(1, f(2, 3)); } func f(u8 a, u8 b) { return a; }"},
		{0, 0, "stack 9; main { f(1,2,3,4,5,6,7,8); } func f(u8 a, u8 b, u8 c, u8 d, u8 e, u8 f, u8 g, u8 h) { }"},
		{api.ErrType, 2, "stack 9; main {¶f(); } func f(u8 a) { }"},
		{api.ErrType, 2, "stack 9; main {¶f(1, 2); } func f(u8 a) { }"},
		{api.ErrType, 2, "stack 9; main {¶f(1); } func f() { }"},
		{api.ErrType, 2, "stack 9; main {¶u8 x = 1 + f(1,2,3,4,5,6,7); } func f(u8 a, u8 b, u8 c, u8 d, u8 e, u8 f, u8 g, u8 h) { }"},
		{api.ErrName, 2, "stack 9; main {¶g(); } func f() { }"},
		{api.ErrName, 2, "stack 9; main {¶f(g()); } func f(u8 a) { }"},
	})
}

// TestP91Index: arrays have an Index, and nothing else does.
func TestP91Index(t *testing.T) {
	about := "stack 9; u8 one; u8 alone[1]; i32 some[4]; port both p; func f(u8 x) { u8 y = 1;¶"
	for _, x := range []struct {
		name  string
		array bool
	}{{"one", false}, {"alone", true}, {"some", true}, {"p", false}, {"x", false}, {"y", false}} {
		for indexed, forms := range map[bool][]string{
			false: {"? = 1;", "p = ?;", "p = 1 + -?;", "p = some[?];", "f2(?);", "if (?) { }", "while (!?) { }", "return u8(?);", "u8 z = ?;", "some[?] = 1;"},
			true:  {"?[0] = 1;", "p = ?[1];", "p = 1 + -?[1];", "p = some[?[0]];", "f2(?[0]);", "if (?[3]) { }", "while (!?[99]) { }", "return u8(?[p]);", "u8 z = ?[one];", "some[?[1]] = 1;"},
		} {
			for _, form := range forms {
				want := finding{0, 0, about + replaced(form, x.name) + "¶} func f2(u8 a) { } main { }"}
				if x.array != indexed {
					want.err, want.line = api.ErrType, 2
				}
				findsAll(t, []finding{want})
			}
		}
	}
}

// TestP91Names: each place of a name, with one that there is not.
func TestP91Names(t *testing.T) {
	for _, form := range []string{"no = 1;", "no[1] = 1;", "u = no;", "u = no[1];", "u = no(1);", "no();", "g(no);", "il[no] = 1;", "il[1] = no;", "if (no) { }", "while (no) { }", "return no;", "u8 no = no;", "atomic (no) { }", "atomic (u, il, no) { }", "u = il[il[no]];", "u = -~!no;", "u = 1 + 2 * (3 - no);", "u = no + 1;", "u = i32(no);"} {
		findsAll(t, []finding{{api.ErrName, 2, "stack 9; u32 u; i32 il[3]; func g(u8 x) { } main {¶" + form + "¶}"}})
	}
}

// TestP91Sections: what may be in a section, and which names it may have.
func TestP91Sections(t *testing.T) {
	findsAll(t, []finding{
		{0, 0, "stack 9; u8 a; u16 b[3]; main { atomic (a) { } atomic (b, a, b, b) { } while (1) { atomic (b) { a = 1; } } }"},
		{0, 0, "stack 9; u8 a; func f(u8 a) { atomic (a) { a = 1; } } main { u8 a = 1; atomic (a) { } if (1) { atomic (a) { } } }"},
		{0, 0, "stack 9; u8 a; func f() { return 1; } func g() { atomic (a) { } } main { atomic (a) { f(); g(); } return 1; }"},
		{api.ErrType, 2, "stack 9; u8 a; main { atomic (a) {¶return 1; } }"},
		{api.ErrType, 2, "stack 9; u8 a; main { atomic (a) {¶return no; } }"},
		{api.ErrType, 2, "stack 9; u8 a; main { atomic (a) {¶return no(a[1]); } }"},
		{api.ErrType, 2, "stack 9; u8 a; main { atomic (a) {¶atomic (a) { } } }"},
		{api.ErrType, 2, "stack 9; u8 a; main { atomic (a) {¶atomic (no) { } } }"},
		{api.ErrType, 2, "stack 9; u8 a; main { atomic (a) {¶atomic (a, no) {¶b = 1; } } }"},
		{api.ErrType, 4, "stack 9; u8 a; main { atomic (a) { while (1) { if (1) {¶u8 b = 1;¶} else {¶return b; } } } }"},
		{api.ErrType, 3, "stack 9; u8 a; main { atomic (a) { while (1) { if (1) {¶u8 b = 1;¶atomic (a) { } } } } }"},
		{0, 0, "stack 9; u8 a; main { atomic (a) { } return 1; }"},
		{0, 0, "stack 9; u8 a; main { while (1) { atomic (a) { } return 1; } atomic (a) { } }"},
		{api.ErrName, 2, "stack 9; port both p; main {¶atomic (p) { } }"},
		{api.ErrName, 2, "stack 9; func f(u8 x) {¶atomic (x) { } } main { }"},
		{api.ErrName, 3, "stack 9; main {¶u8 x = 1;¶atomic (x) { } }"},
		{api.ErrName, 2, "stack 9; func f() { } main {¶atomic (f) { } }"},
		{api.ErrName, 2, "stack 9; u8 a; main {¶atomic (a, no) {¶b = 1; } }"},
		{api.ErrName, 2, "stack 9; u8 a; main {¶atomic (no) {¶return 1; } }"},
	})
}

// TestP91Declarations: the first group, each sentence alone.
func TestP91Declarations(t *testing.T) {
	findsAll(t, []finding{
		{api.ErrThere, 3, "stack 9;¶u8 a;¶u16 a;¶main { }"},
		{api.ErrThere, 4, "stack 9;¶u8 a;¶u16 b[3];¶u8 a[2];¶main { }"},
		{api.ErrThere, 3, "stack 9;¶u8 a;¶port read a;¶main { }"},
		{api.ErrThere, 3, "stack 9;¶port write a;¶port read a;¶main { }"},
		{api.ErrThere, 3, "stack 9;¶u8 a;¶func a() { }¶main { }"},
		{api.ErrThere, 3, "stack 9;¶port read a;¶func a() { }¶main { }"},
		{api.ErrThere, 4, "stack 9;¶func a() { }¶main { }¶func a(u8 x) { }"},
		{api.ErrThere, 3, "stack 9;¶main { }¶main { }"},
		{api.ErrThere, 4, "stack 9;¶main { }¶func f() { }¶main { } main { }¶main { }"},
		{api.ErrThere, 4, "stack 9;¶on 3 prio 1 { }¶main { }¶on 3 prio 2 { }"},
		{api.ErrThere, 3, "stack 9;¶on 0 prio 1 { } on 31 prio 1 { }¶on 31 prio 1 { }¶on 0 prio 1 { } main { }"},
		{api.ErrNone, 0, "stack 9;"},
		{api.ErrNone, 0, "stack 9;¶u8 a;¶port read b;¶func f() { }¶on 1 prio 1 { }"},
		{0, 0, "stack 9; u8 a; u8 b; port read c; func d() { } func e() { } main { } on 1 prio 1 { } on 2 prio 1 { }"},
		{0, 0, "stack 9; on 1 prio 7 { } on 2 prio 7 { } on 3 prio 7 { } main { }"},
		{api.ErrThere, 2, "stack 9;¶func f(u8 a, u8 a) { } main { }"},
		{api.ErrThere, 2, "stack 9;¶func f(u8 a, u8 b, u8 c,¶i32 b) { } main { }"},
		{0, 0, "stack 9; func f(u8 a, u8 b) { } func g(u8 b, u8 a, u8 f, u8 g) { } main { } u8 a; port read b;"},
	})
}

// TestP91Loops: the first function that reaches itself, not one that only
// reaches such ones.
func TestP91Loops(t *testing.T) {
	findsAll(t, []finding{
		{api.ErrLoop, 2, "stack 9;¶func f() { f(); } main { }"},
		{api.ErrLoop, 2, "stack 9;¶func f() { g(); }¶func g() { f(); }¶main { }"},
		{api.ErrLoop, 3, "stack 9;¶func e() { f(); }¶func f() { g(); }¶func g() { f(); }¶main { e(); }"},
		{api.ErrLoop, 4, "stack 9;¶func e() { f(1); }¶func d() { }¶func f(u8 x) { while (x) { x = g(1) + 1; } }¶func g(u8 y) { return f(f(y)); }¶main { f(1); }"},
		{api.ErrLoop, 3, "stack 9; main { a(); }¶func a() { b(); }¶func b() { c(); } func c() { d(); }¶func d() { e(); } func e() { b(); }"},
		{api.ErrLoop, 2, "stack 9; main { a(); }¶func a() { b(); }¶func b() { c(); } func c() { d(); }¶func d() { e(); } func e() { a(); }"},
		{api.ErrLoop, 4, "stack 9;¶func a() { b(); c(); }¶func b() { c(); }¶func c() { if (1) { } else { u8 x = 1 + d[c()]; } }¶main { } u8 d[2];"},
		{api.ErrLoop, 4, "stack 9; u8 g;¶main { atomic (g) { a(); } }¶func a() { atomic (g) { b(1); } }¶func b(u8 x) { return !b(x); }"},
		{0, 0, "stack 9; func a() { b(); c(); b(); } func b() { c(); d(); } func c() { d(); } func d() { } main { a(); d(); } on 1 prio 1 { a(); }"},
	})
	for i, p := range []api.Program{with(), firmware()} {
		at := slices.IndexFunc(p.Funcs, func(d api.Decl) bool { return d.Name == "g" || d.Name == "half" })
		p.Funcs[at].Body = append(p.Funcs[at].Body, calls(p.Funcs[at].Name, num(1)))
		finds(t, "a function that calls itself", p, api.Fault{Err: api.ErrLoop, Line: p.Funcs[at].Line})
		if p.Funcs[at].Line == 0 {
			t.Errorf("%d: no Line", i)
		}
	}
}

// TestP91Chains: all functions call the next one, and the last one calls one of
// them, or none.
func TestP91Chains(t *testing.T) {
	chain := func(order []int, back int) api.Program {
		p := with()
		p.Funcs = p.Funcs[:1]
		all := names(60)
		for _, i := range order {
			var body []api.Stmt
			if i < 59 {
				body = append(body, calls(all[i+1]))
			} else if back >= 0 {
				body = append(body, calls(all[back]))
			}
			p.Funcs = append(p.Funcs, function(all[i], nil, body...))
		}
		return lined(p)
	}
	order := make([]int, 60)
	r := numbers(7)
	for range 50 {
		for i := range order {
			order[i] = i
			j := r.below(i + 1)
			order[i], order[j] = order[j], order[i]
		}
		finds(t, "a chain", chain(order, -1), api.Fault{})
		back := r.below(60)
		p := chain(order, back)
		for at, i := range order {
			if i >= back {
				finds(t, "a ring", p, api.Fault{Err: api.ErrLoop, Line: p.Funcs[at+1].Line})
				break
			}
		}
	}
}

// TestP91Invalid: what ast.Check refuses has its error, for the whole source,
// ahead of all violations.
func TestP91Invalid(t *testing.T) {
	wrong := []api.Program{
		{}, {Stack: 0, Funcs: []api.Decl{begins()}}, {Stack: 65537}, {Stack: 1, Funcs: []api.Decl{{}}},
		with(api.Stmt{}), with(set("no", api.Expr{})), with(set("no", bin(6, num(1), num(2)))), with(atomic(nil)),
		with(many(4001)...), with(returns(un(4, named("no")))), with(atomic([]string{""})), with(set("", num(1))), with(plain(api.StLevel, 16)),
	}
	for _, p := range wrong {
		want := ast.Check(p)
		if want == api.OK {
			t.Fatalf("%+v is valid", p)
		}
		finds(t, "an invalid program", p, api.Fault{Err: want})
		p.Globals = append(p.Globals, p.Globals...)
		p.Funcs = append(p.Funcs, p.Funcs...)
		finds(t, "an invalid program with twice as much", p, api.Fault{Err: ast.Check(p)})
	}
	deep := named("no")
	for range 60 {
		deep = un(1, deep)
	}
	finds(t, "too deep", with(returns(deep)), api.Fault{Err: api.ErrLong})
	endless := while(num(1), plain(api.StLevel, 1))
	endless.Then[0] = endless
	if f := check.Check(api.Program{Stack: 1, Funcs: []api.Decl{begins(endless)}}); f != (api.Fault{Err: api.ErrLong}) {
		t.Errorf("endless: %+v", f)
	}
}

// TestP91Examples: the examples of the chapter.
func TestP91Examples(t *testing.T) {
	findsAll(t, []finding{
		{api.ErrName, 1, "stack 9; main { x = 1; }"},
		{api.ErrLoop, 1, "stack 9; func f() { g(); } func g() { f(); } main { }"},
		{api.ErrName, 1, "stack 9; main { if (1) { u8 a = 1; } a = 2; }"},
	})
}

// TestP91Tables: the tables of some programs, one by one.
func TestP91Tables(t *testing.T) {
	got, f := check.Tables(program(t, "stack 9; func two(u8 x, i32 y) { u8 z = 1; while (z) { u8 v = 1; } } u8 a; u16 b[3]; i32 c[1]; port read in; u32 d; main { u8 e = 1; atomic (b, a) { } if (e) { u8 f = 1; atomic (d) { u8 g = 2; } } else { u8 f = 2; atomic (c, d, c) { } } } port write out; on 31 prio 15 { u8 h = 1; } func none() { atomic (a, b, c, d) { } }"))
	want := api.Tables{
		Cells: []api.Cells{{Name: "a", At: 0, Len: 0, Type: 1}, {Name: "b", At: 1, Len: 3, Type: 2}, {Name: "c", At: 4, Len: 1, Type: 4}, {Name: "d", At: 5, Len: 0, Type: 3}},
		Funcs: []api.Head{
			{Kind: 1, Name: "two", Params: []api.Param{{Name: "x", Type: 1}, {Name: "y", Type: 4}}, Slots: 4},
			{Kind: 2, Slots: 4}, {Kind: 3, Slots: 1, On: 31, Prio: 15}, {Kind: 1, Name: "none"},
		},
		Ports: []string{"in", "out"},
		Atoms: [][]int{{0, 1, 2, 3}, {5}, {4, 5}, {0, 1, 2, 3, 4, 5}},
	}
	if f != (api.Fault{}) || !reflect.DeepEqual(got, want) {
		t.Errorf("%+v, %+v", got, f)
	}
	got, f = check.Tables(program(t, "stack 9; main { }"))
	if f != (api.Fault{}) || !reflect.DeepEqual(copied(got), api.Tables{Funcs: []api.Head{{Kind: 2}}}) {
		t.Errorf("%+v, %+v", got, f)
	}
}

// TestP91Fresh: tables share no memory with the program, nor with other tables,
// nor their lists with each other.
func TestP91Fresh(t *testing.T) {
	for _, p := range programs()[:60] {
		before := copied(p)
		got, _ := check.Tables(p)
		again, _ := check.Tables(p)
		want := copied(got)
		for i := range got.Funcs {
			l := got.Funcs[i].Params[:cap(got.Funcs[i].Params)]
			for j := range l {
				l[j] = api.Param{Name: "changed", Type: 77}
			}
		}
		for i := range got.Atoms {
			l := got.Atoms[i][:cap(got.Atoms[i])]
			for j := range l {
				l[j] = -1
			}
			for _, other := range got.Atoms[i+1:] {
				if slices.Contains(other, -1) {
					t.Fatal("two sections share memory")
				}
			}
		}
		clear(got.Cells[:cap(got.Cells)])
		clear(got.Ports[:cap(got.Ports)])
		clear(got.Funcs[:cap(got.Funcs)])
		if !reflect.DeepEqual(copied(again), want) || !reflect.DeepEqual(copied(p), before) {
			t.Fatal("something else was changed")
		}
	}
}
