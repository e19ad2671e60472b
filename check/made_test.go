package check_test

import (
	"reflect"
	"slices"
	"strings"
	"testing"

	"lamplighter/api"
	"lamplighter/check"
	"lamplighter/parse"
)

// program is what a source is parsed into; a ¶ is the end of a line.
func program(t *testing.T, source string) api.Program {
	t.Helper()
	p, f := parse.Parse(strings.ReplaceAll(source, "¶", "\n"))
	if f != (api.Fault{}) {
		t.Fatalf("%q: %+v", source, f)
	}
	return p
}

// expression is what a text is parsed into.
func expression(t *testing.T, source string) api.Expr {
	t.Helper()
	e, f := parse.Expr(source)
	if f != (api.Fault{}) {
		t.Fatalf("%q: %+v", source, f)
	}
	return e
}

// finds compares the fault of a program, also that of Tables, with the one that
// is wanted and with that of the reference.
func finds(t *testing.T, name string, p api.Program, want api.Fault) {
	t.Helper()
	before := copied(p)
	if f, r := check.Check(p), expectedFault(p); f != want || r != want {
		t.Errorf("%s: %+v, the reference says %+v, want %+v", name, f, r, want)
	}
	tables, f := check.Tables(p)
	if f != want {
		t.Errorf("%s: the tables have %+v, want %+v", name, f, want)
	}
	if want != (api.Fault{}) && !reflect.DeepEqual(tables, api.Tables{}) {
		t.Errorf("%s: %+v beside %+v", name, tables, f)
	}
	if want == (api.Fault{}) && !reflect.DeepEqual(copied(tables), copied(expectedTables(p))) {
		t.Errorf("%s: %+v, want %+v", name, tables, expectedTables(p))
	}
	if !reflect.DeepEqual(copied(p), before) {
		t.Errorf("%s: the program was changed", name)
	}
}

// finding is a source, and the fault that it has.
type finding struct {
	err    api.Errno
	line   int
	source string
}

func findsAll(t *testing.T, l []finding) {
	t.Helper()
	for _, x := range l {
		finds(t, x.source, program(t, x.source), api.Fault{Err: x.err, Line: x.line})
	}
}

// replaced is a form with a name at each ?.
func replaced(form, name string) string {
	return strings.ReplaceAll(form, "?", name)
}

func num(n uint32) api.Expr {
	return api.Expr{Kind: api.ExNum, N: n}
}

func named(name string) api.Expr {
	return api.Expr{Kind: api.ExVar, Name: name}
}

func index(name string, e api.Expr) api.Expr {
	return api.Expr{Kind: api.ExIndex, Name: name, Args: []api.Expr{e}}
}

func call(name string, args ...api.Expr) api.Expr {
	return api.Expr{Kind: api.ExCall, Name: name, Args: args}
}

func un(op int, e api.Expr) api.Expr {
	return api.Expr{Kind: api.ExUn, Op: op, Args: []api.Expr{e}}
}

func bin(op int, a, b api.Expr) api.Expr {
	return api.Expr{Kind: api.ExBin, Op: op, Args: []api.Expr{a, b}}
}

func cast(ty int, e api.Expr) api.Expr {
	return api.Expr{Kind: api.ExCast, Type: ty, Args: []api.Expr{e}}
}

func one(e api.Expr) []api.Expr {
	return []api.Expr{e}
}

func let(name string, ty int, e api.Expr) api.Stmt {
	return api.Stmt{Kind: api.StLet, Name: name, Type: ty, Expr: one(e)}
}

func set(name string, e api.Expr) api.Stmt {
	return api.Stmt{Kind: api.StSet, Name: name, Expr: one(e)}
}

func setAt(name string, at, e api.Expr) api.Stmt {
	return api.Stmt{Kind: api.StSet, Name: name, Index: one(at), Expr: one(e)}
}

func calls(name string, args ...api.Expr) api.Stmt {
	return api.Stmt{Kind: api.StCall, Expr: one(call(name, args...))}
}

func when(e api.Expr, then, otherwise []api.Stmt) api.Stmt {
	return api.Stmt{Kind: api.StIf, Expr: one(e), Then: then, Else: otherwise}
}

func while(e api.Expr, then ...api.Stmt) api.Stmt {
	return api.Stmt{Kind: api.StWhile, Expr: one(e), Then: then}
}

func returns(e api.Expr) api.Stmt {
	return api.Stmt{Kind: api.StReturn, Expr: one(e)}
}

// plain is one of the statements that have nothing but a number.
func plain(kind, n int) api.Stmt {
	return api.Stmt{Kind: kind, N: n}
}

func atomic(names []string, then ...api.Stmt) api.Stmt {
	return api.Stmt{Kind: api.StAtomic, Names: names, Then: then}
}

func function(name string, params []api.Param, body ...api.Stmt) api.Decl {
	return api.Decl{Kind: api.KindFunc, Name: name, Params: params, Body: body}
}

func begins(body ...api.Stmt) api.Decl {
	return api.Decl{Kind: api.KindMain, Body: body}
}

func on(line, prio int, body ...api.Stmt) api.Decl {
	return api.Decl{Kind: api.KindOn, On: line, Prio: prio, Body: body}
}

// with is a program of main, with a global and a function of each kind.
func with(body ...api.Stmt) api.Program {
	return lined(api.Program{
		Stack: 1,
		Globals: []api.Global{
			{Name: "u", Type: api.TyU32}, {Name: "i", Type: api.TyI32},
			{Name: "ul", Type: api.TyU32, Len: 4}, {Name: "il", Type: api.TyI32, Len: 3},
		},
		Gates: []api.Gate{{Name: "p", Read: true, Write: true}},
		Funcs: []api.Decl{begins(body...), function("f", nil), function("g", []api.Param{{Name: "x", Type: api.TyI32}}, returns(named("x")))},
	})
}

// lined is a copy whose declarations and statements have Lines of their own, in
// their order.
func lined(p api.Program) api.Program {
	p = copied(p)
	line := 1
	put := func(at *int) {
		line++
		*at = line
	}
	var down func(l []api.Stmt)
	down = func(l []api.Stmt) {
		for i := range l {
			put(&l[i].Line)
			down(l[i].Then)
			down(l[i].Else)
		}
	}
	for i := range p.Globals {
		put(&p.Globals[i].Line)
	}
	for i := range p.Gates {
		put(&p.Gates[i].Line)
	}
	for i := range p.Funcs {
		put(&p.Funcs[i].Line)
		down(p.Funcs[i].Body)
	}
	return p
}

// firmware is a program with all that a program may have.
func firmware() api.Program {
	n, lit, dark := named("n"), named("lit"), named("dark")
	by, most := named("by"), named("most")
	return lined(api.Program{
		Stack: 64,
		Globals: []api.Global{
			{Name: "lit", Type: api.TyU8, Init: []uint32{1}},
			{Name: "hours", Type: api.TyU16, Len: 24, Init: []uint32{0, 15, 65535}},
			{Name: "since", Type: api.TyU32},
			{Name: "_last_1", Type: api.TyI32, Len: 2},
		},
		Gates: []api.Gate{{Name: "dark", Read: true}, {Name: "led", Write: true}, {Name: "lamp", Read: true, Write: true}},
		Funcs: []api.Decl{
			function("dim", []api.Param{{Name: "by", Type: api.TyU32}, {Name: "most", Type: api.TyI32}},
				when(bin(api.ExGe, by, most), []api.Stmt{let("lit", api.TyI32, by), returns(bin(api.BinSub, lit, most))}, []api.Stmt{returns(call("half", by))}),
			),
			function("idle", nil),
			begins(
				plain(api.StLevel, 15),
				plain(api.StEnable, 31),
				let("n", api.TyU16, un(api.UnNeg, cast(api.TyU8, index("hours", lit)))),
				while(un(api.UnZero, dark),
					atomic([]string{"lit", "hours", "lit"},
						let("_last_1", api.TyI32, n),
						setAt("hours", bin(api.BinRem, n, named("_last_1")), call("dim", num(1), bin(api.BinXor, n, num(2)))),
						set("n", un(api.UnNot, n))),
					calls("idle"),
					atomic([]string{"_last_1"}),
					calls("dim", num(2), index("_last_1", num(255))),
				),
				plain(api.StDisable, 0),
			),
			on(0, 1, let("led", api.TyU8, lit), set("led", bin(api.BinShl, lit, num(3)))),
			function("half", []api.Param{{Name: "lit", Type: api.TyU8}}, set("lamp", bin(api.BinShr, lit, num(1))), returns(named("lamp"))),
			on(31, 15,
				when(bin(api.BinEq, dark, index("hours", num(3))), []api.Stmt{let("lit", api.TyI32, num(4294967295))}, []api.Stmt{let("lit", api.TyU8, named("since"))}),
				while(num(0)),
				returns(num(1)),
			),
		},
	})
}

// everyExpression is correct expressions of each kind, with each operator and
// type, in a program made by with.
func everyExpression() []api.Expr {
	l := []api.Expr{num(0), num(4294967295), named("u"), named("i"), named("p"), index("ul", num(1)), index("il", index("ul", named("u"))), call("f"), call("g", named("p"))}
	for op := 1; op <= 3; op++ {
		l = append(l, un(op, named("u")), un(op, named("i")))
	}
	for _, op := range binaries() {
		for _, a := range []api.Expr{named("u"), named("i"), num(1)} {
			l = append(l, bin(op, a, named("u")), bin(op, a, index("il", num(0))))
		}
	}
	for ty := 1; ty <= 4; ty++ {
		l = append(l, cast(ty, named("u")), cast(ty, named("i")))
	}
	return l
}

// everyStatement is correct statements of each kind, in a program made by with.
func everyStatement() []api.Stmt {
	x, few := named("u"), []api.Stmt{plain(api.StLevel, 3), set("u", num(1))}
	l := []api.Stmt{
		set("u", num(1)), set("p", num(2)), setAt("ul", num(1), x), calls("f"), calls("g", x),
		when(x, nil, nil), when(x, few, nil), when(x, nil, few), when(x, few, few),
		while(x), while(x, few...), returns(x), returns(call("f")),
		plain(api.StEnable, 31), plain(api.StDisable, 0), plain(api.StLevel, 15),
		atomic([]string{"u"}), atomic([]string{"il", "u", "il"}, few...), atomic([]string{"ul"}, while(x, when(x, few, few))),
	}
	for ty := 1; ty <= 4; ty++ {
		name := "local" + string(rune('0'+ty))
		l = append(l, let(name, ty, num(1)), set(name, named(name)))
	}
	return l
}

// binaries is the operators of ExBin.
func binaries() []int {
	return []int{1, 2, 3, 4, 5, 8, 9, 10, 11, 12, 14, 15, 16, 17, 20, 21}
}

// many is n statements.
func many(n int) []api.Stmt {
	return slices.Repeat([]api.Stmt{plain(api.StLevel, 1)}, n)
}
