package check_test

import (
	"fmt"
	"math"
	"reflect"
	"slices"
	"testing"

	"lamplighter/api"
	"lamplighter/check"
)

// finder is a search in tables, as a number, a length and whether there is one.
type finder func(name string) (int, int, bool)

func finders(t api.Tables) []finder {
	return []finder{
		func(name string) (int, int, bool) { return check.Cell(t, name) },
		func(name string) (int, int, bool) { i, ok := check.Func(t, name); return i, 0, ok },
		func(name string) (int, int, bool) { i, ok := check.Port(t, name); return i, 0, ok },
	}
}

// TestP92Find: each name of a program is found among what it is a name of, and
// not elsewhere.
func TestP92Find(t *testing.T) {
	for _, p := range programs() {
		tables, _ := check.Tables(p)
		before := copied(tables)
		all := append([]string{"", "zz", "main", "A", "a[", "aa"}, pool...)
		cell := 0
		want := []map[string][2]int{{}, {}, {}}
		for _, g := range p.Globals {
			all = append(all, g.Name)
			want[0][g.Name] = [2]int{cell, g.Len}
			cell += max(1, g.Len)
		}
		for i, d := range p.Funcs {
			all = append(all, d.Name)
			if d.Kind == api.KindFunc {
				want[1][d.Name] = [2]int{i}
			}
		}
		for i, g := range p.Gates {
			all = append(all, g.Name)
			want[2][g.Name] = [2]int{i}
		}
		for _, name := range all {
			for what, find := range finders(tables) {
				x, is := want[what][name]
				if at, n, ok := find(name); at != x[0] || n != x[1] || ok != is {
					t.Errorf("%q of %d: %d, %d, %v, want %v, %v", name, what, at, n, ok, x, is)
				}
			}
		}
		if !reflect.DeepEqual(copied(tables), before) {
			t.Error("tables were changed")
		}
	}
}

// TestP92FindFirst: of equal names the first one counts; only functions that
// can be called are found.
func TestP92FindFirst(t *testing.T) {
	tables := api.Tables{
		Cells: []api.Cells{{Name: "a", At: 5, Len: 2}, {Name: "b", At: 7}, {Name: "a", At: 8, Len: 3}, {Name: "x", At: -1, Len: -2}},
		Funcs: []api.Head{{Kind: 2, Name: "a"}, {Kind: 3, Name: "a"}, {Kind: 0, Name: "a"}, {Kind: 1, Name: "a"}, {Kind: 1, Name: "a"}, {Kind: 2}, {Kind: 3, Name: "b"}, {Kind: 4, Name: "b"}},
		Ports: []string{"b", "c", "a", "a", "c"},
	}
	for name, want := range map[string][3][3]int{
		"a": {{5, 2, 1}, {3, 0, 1}, {2, 0, 1}}, "b": {{7, 0, 1}, {}, {0, 0, 1}}, "c": {{}, {}, {1, 0, 1}}, "x": {{-1, -2, 1}, {}, {}}, "": {}, "d": {},
	} {
		for what, find := range finders(tables) {
			if at, n, ok := find(name); [3]int{at, n, map[bool]int{true: 1}[ok]} != want[what] {
				t.Errorf("%q of %d: %d, %d, %v, want %v", name, what, at, n, ok, want[what])
			}
		}
	}
	for what, find := range finders(api.Tables{}) {
		for _, name := range []string{"", "a"} {
			if at, n, ok := find(name); at != 0 || n != 0 || ok {
				t.Errorf("%q of %d in nothing: %d, %d, %v", name, what, at, n, ok)
			}
		}
	}
}

// signs compares what Signed and Goes say with what is wanted, and with the
// reference.
func signs(t *testing.T, name string, tables api.Tables, locals []api.Param, e api.Expr, signed, goes bool) {
	t.Helper()
	if got, r := check.Signed(tables, locals, e), expectedSigned(tables, locals, e); got != signed || r != signed {
		t.Errorf("%s: signed %v, the reference says %v, want %v", name, got, r, signed)
	}
	if got, r := check.Goes(tables, locals, e), expectedGoes(tables, locals, e); got != goes || r != goes {
		t.Errorf("%s: computed signed %v, the reference says %v, want %v", name, got, r, goes)
	}
}

// signTables is tables with a global of each type, scalars and arrays.
func signTables() api.Tables {
	return api.Tables{
		Cells: []api.Cells{
			{Name: "s1", Type: 1}, {Name: "s2", Type: 2}, {Name: "s3", Type: 3}, {Name: "s4", Type: 4},
			{Name: "a1", Type: 1, Len: 9}, {Name: "a2", Type: 2, Len: 9}, {Name: "a3", Type: 3, Len: 9}, {Name: "a4", Type: 4, Len: 9},
		},
		Funcs: []api.Head{{Kind: 1, Name: "f", Params: []api.Param{{Name: "x", Type: 4}}}, {Kind: 1, Name: "s4"}},
		Ports: []string{"p"},
	}
}

// TestP92Plain: the signs of what is not an operator.
func TestP92Plain(t *testing.T) {
	tables := signTables()
	for text, signed := range map[string]bool{
		"s1": false, "s2": false, "s3": false, "s4": true, "a1[0]": false, "a2[0]": false, "a3[s4]": false, "a4[0]": true, "a4[s1]": true,
		"p": false, "no": false, "no[1]": false, "f(1)": false, "f(s4)": false, "s4()": false, "7": false, "4294967295": false,
		"u8(s4)": false, "u16(s4)": false, "u32(s4)": false, "i32(s4)": true, "i32(s1)": true, "i32(1)": true, "u32(i32(1))": false, "i32(u8(1))": true,
		"-s4": true, "~s4": true, "!s4": false, "-s3": false, "~s3": false, "!s3": false, "--s4": true, "-~-s4": true, "-!s4": false, "!-s4": false, "-i32(1)": true, "-f(s4)": false, "-a4[2]": true,
	} {
		signs(t, text, tables, nil, expression(t, text), signed, false)
	}
}

// TestP92Operators: the signs of each operator, with operands of each type on
// either side.
func TestP92Operators(t *testing.T) {
	tables := signTables()
	operands := map[string]bool{"s1": false, "s2": false, "s3": false, "s4": true, "a3[1]": false, "a4[1]": true, "-s4": true, "!s4": false, "i32(s1)": true, "u32(s4)": false, "1": false, "f(s4)": false, "(s4 + 1)": true, "(s4 == 1)": false, "(1 << s4)": false}
	for a, left := range operands {
		for b, right := range operands {
			either := left || right
			for op, want := range map[string][2]bool{
				"+": {either, false}, "-": {either, false}, "*": {either, false}, "/": {either, either}, "%": {either, either},
				"&": {either, false}, "|": {either, false}, "^": {either, false}, "<<": {left, false}, ">>": {left, left},
				"==": {false, either}, "!=": {false, either}, "<": {false, either}, "<=": {false, either}, ">": {false, either}, ">=": {false, either},
			} {
				text := a + " " + op + " " + b
				e := expression(t, text)
				if e.Kind != api.ExBin || len(e.Args) != 2 {
					t.Fatalf("%s is %+v", text, e)
				}
				signs(t, text, tables, nil, e, want[0], want[1])
				signs(t, "-("+text+")", tables, nil, un(1, e), want[0], false)
				signs(t, "i32("+text+")", tables, nil, cast(4, e), true, false)
			}
		}
	}
}

// TestP92Locals: locals hide what is global, the last one of a name counts, but
// an index means a global.
func TestP92Locals(t *testing.T) {
	tables := signTables()
	for _, x := range []struct {
		locals []api.Param
		text   string
		signed bool
	}{
		{[]api.Param{{Name: "s4", Type: 1}}, "s4", false}, {[]api.Param{{Name: "s4", Type: 3}}, "s4", false}, {[]api.Param{{Name: "s1", Type: 4}}, "s1", true}, {[]api.Param{{Name: "s1", Type: 4}}, "s2", false}, {[]api.Param{{Name: "s1", Type: 4}}, "s4", true},
		{[]api.Param{{Name: "x", Type: 4}}, "x", true}, {[]api.Param{{Name: "p", Type: 4}}, "p", true}, {[]api.Param{{Name: "f", Type: 4}}, "f(1)", false}, {[]api.Param{{Name: "x", Type: 2}}, "x", false},
		{[]api.Param{{Name: "x", Type: 4}, {Name: "x", Type: 1}}, "x", false}, {[]api.Param{{Name: "x", Type: 1}, {Name: "x", Type: 4}}, "x", true}, {[]api.Param{{Name: "x", Type: 4}, {Name: "x", Type: 1}, {Name: "x", Type: 4}, {Name: "y", Type: 1}}, "x", true},
		{[]api.Param{{Name: "y", Type: 4}, {Name: "x", Type: 1}, {Name: "z", Type: 4}}, "x", false}, {[]api.Param{{Name: "s4", Type: 4}, {Name: "s4", Type: 2}}, "s4", false},
		{[]api.Param{{Name: "a4", Type: 1}}, "a4[0]", true}, {[]api.Param{{Name: "a1", Type: 4}}, "a1[0]", false}, {[]api.Param{{Name: "a1", Type: 4}}, "a1", true}, {[]api.Param{{Name: "no", Type: 4}}, "no[1]", false}, {[]api.Param{{Name: "no", Type: 4}}, "-no", true},
		{[]api.Param{{Name: "s4", Type: 1}}, "s4 + s3", false}, {[]api.Param{{Name: "s4", Type: 1}}, "a4[s4] + s3", true}, {[]api.Param{{Name: "s3", Type: 4}}, "s4 << s3", true}, {[]api.Param{{Name: "s4", Type: 1}}, "u32(s4) + -s4", false},
		{[]api.Param{{Name: "s4", Type: 0}}, "s4", false}, {[]api.Param{{Name: "s4", Type: 5}}, "s4", false}, {[]api.Param{{Name: "", Type: 4}}, "s1", false},
	} {
		before := slices.Clone(x.locals)
		signs(t, fmt.Sprint(x.text, x.locals), tables, x.locals, expression(t, x.text), x.signed, false)
		got := check.Goes(tables, x.locals, bin(api.BinDiv, expression(t, x.text), num(1)))
		if got != x.signed {
			t.Errorf("%s / 1: computed signed %v", x.text, got)
		}
		if !slices.Equal(x.locals, before) {
			t.Error("the locals were changed")
		}
	}
	spare := append(make([]api.Param, 0, 4), api.Param{Name: "x", Type: 1})
	_ = append(spare, api.Param{Name: "x", Type: 4})
	signs(t, "a spare local", tables, spare, named("x"), false, false)
}

// TestP92AnyTables: tables that are those of no program: the first of equal
// names counts, whatever its Len.
func TestP92AnyTables(t *testing.T) {
	tables := api.Tables{Cells: []api.Cells{{Name: "x", Type: 1}, {Name: "x", Type: 4}, {Name: "y", Type: 4, Len: 3}, {Name: "y", Type: 2}, {Name: "z", Type: 9}}, Ports: []string{"x", "y"}}
	for text, signed := range map[string]bool{"x": false, "x[1]": false, "y": true, "y[1]": true, "z": false, "z[1]": false} {
		signs(t, text, tables, nil, expression(t, text), signed, false)
		signs(t, text, api.Tables{}, nil, expression(t, text), false, false)
	}
}

// TestP92Random: expressions of random programs, with random locals.
func TestP92Random(t *testing.T) {
	r := numbers(4)
	count := [2][2]int{}
	for range 2000 {
		p := r.program()
		tables, _ := check.Tables(p)
		for _, d := range p.Funcs {
			for _, s := range statements(d) {
				var locals []api.Param
				for range r.below(4) {
					locals = append(locals, api.Param{Name: among(&r, pool), Type: 1 + r.below(4)})
				}
				for _, e := range behind(slices.Concat(s.Index, s.Expr)) {
					signed, goes := expectedSigned(tables, locals, e), expectedGoes(tables, locals, e)
					signs(t, "a random one", tables, locals, e, signed, goes)
					count[0][len(e.Args)%2] += map[bool]int{true: 1}[signed]
					count[1][0] += map[bool]int{true: 1}[goes]
				}
			}
		}
	}
	if count[0][0] < 500 || count[0][1] < 300 || count[1][0] < 200 {
		t.Errorf("%v", count)
	}
}

// TestP92Invalid: nothing that is not valid is signed, or computed signed.
func TestP92Invalid(t *testing.T) {
	tables := signTables()
	i := named("s4")
	deep, chain := i, bin(api.BinDiv, i, i)
	for range 59 {
		deep = un(1, deep)
	}
	for range 58 {
		chain = bin(api.BinDiv, chain, i)
	}
	signs(t, "60 deep", tables, nil, deep, true, false)
	signs(t, "60 deep", tables, nil, chain, true, true)
	var l []api.Expr
	l = append(l, un(1, deep), bin(api.BinDiv, chain, i), bin(api.BinDiv, i, deep), cast(4, deep), index("a4", deep), bin(api.BinDiv, i, un(1, deep)))
	for _, op := range []int{-1, 0, 6, 7, 13, 18, 19, 22, 1000, math.MaxInt, math.MinInt} {
		l = append(l, bin(op, i, i), un(1, bin(op, i, i)), cast(4, bin(op, i, i)), bin(api.BinDiv, i, bin(op, i, i)))
	}
	for _, op := range []int{-1, 0, 4, math.MaxInt} {
		l = append(l, un(op, i), bin(api.BinAdd, i, un(op, i)))
	}
	for _, x := range []api.Expr{i, index("a4", num(1)), cast(4, i), un(1, i), bin(api.BinDiv, i, i), bin(api.BinShr, i, i), bin(api.ExGe, i, i), bin(api.BinAdd, i, i)} {
		vary(&x, []string{"", "u8", "S", "s4 ", "1"}, func(way string) {
			if expectedErr(x) {
				l = append(l, copied(x))
			}
		})
		x.Args = append(x.Args, i)
		l = append(l, x)
	}
	many := call("f", slices.Repeat(one(i), 4000)...)
	endless := bin(api.BinDiv, i, i)
	endless.Args[0] = endless
	l = append(l, api.Expr{}, many, bin(api.BinDiv, i, many), endless, cast(4, endless), cast(0, i), cast(5, i))
	if len(l) < 200 {
		t.Errorf("only %d", len(l))
	}
	for at, e := range l {
		if check.Signed(tables, nil, e) || check.Goes(tables, nil, e) {
			t.Errorf("%d, of kind %d: signed %v, computed signed %v", at, e.Kind, check.Signed(tables, nil, e), check.Goes(tables, nil, e))
		}
	}
}
