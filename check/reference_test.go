package check_test

import (
	"fmt"
	"reflect"
	"slices"

	"lamplighter/api"
	"lamplighter/ast"
)

// stated is a statement, with the way to its block: for each statement around
// it its number in the function, and 0 for its Then or 1 for its Else.
type stated struct {
	api.Stmt
	way      []int
	sections int // around it
}

// statements is the statements of a function, in the order of the text.
func statements(d api.Decl) []stated {
	var l []stated
	var down func(stmts []api.Stmt, way []int, sections int)
	down = func(stmts []api.Stmt, way []int, sections int) {
		for _, s := range stmts {
			number := len(l)
			l = append(l, stated{s, way, sections})
			within := sections
			if s.Kind == 10 {
				within++
			}
			down(s.Then, append(slices.Clone(way), number, 0), within)
			down(s.Else, append(slices.Clone(way), number, 1), within)
		}
	}
	down(d.Body, nil, 0)
	return l
}

// behind is expressions as they are checked: each behind its Args.
func behind(l []api.Expr) []api.Expr {
	var all []api.Expr
	for _, e := range l {
		all = append(append(all, behind(e.Args)...), e)
	}
	return all
}

// isParam reports whether a function has a Param of that name.
func isParam(d api.Decl, name string) bool {
	return slices.ContainsFunc(d.Params, func(x api.Param) bool { return x.Name == name })
}

// isLet reports whether a let of a name is in scope at a statement.
func isLet(l []stated, at int, name string) bool {
	for _, x := range l[:at] {
		if x.Kind == 1 && x.Name == name && len(x.way) <= len(l[at].way) && slices.Equal(x.way, l[at].way[:len(x.way)]) {
			return true
		}
	}
	return false
}

func globalOf(p api.Program, name string) int {
	return slices.IndexFunc(p.Globals, func(g api.Global) bool { return g.Name == name })
}

func gateOf(p api.Program, name string) int {
	return slices.IndexFunc(p.Gates, func(g api.Gate) bool { return g.Name == name })
}

func functionOf(p api.Program, name string) int {
	return slices.IndexFunc(p.Funcs, func(d api.Decl) bool { return d.Kind == 1 && d.Name == name })
}

// faults is violations, in the order in which they count.
type faults []api.Fault

func (f *faults) add(err api.Errno, line int) {
	*f = append(*f, api.Fault{Err: err, Line: line})
}

// violations is all that keeps a program from being correct.
func violations(p api.Program) faults {
	if e := ast.Check(p); e != api.OK {
		return faults{{Err: e}}
	}
	var f faults
	f.declarations(p)
	for _, d := range p.Funcs {
		for i, x := range d.Params {
			if isParam(api.Decl{Params: d.Params[:i]}, x.Name) {
				f.add(api.ErrThere, d.Line)
			}
		}
		l := statements(d)
		for at := range l {
			f.statement(p, d, l, at)
		}
	}
	for i, d := range p.Funcs {
		if slices.Contains(reached(p, i), i) {
			f.add(api.ErrLoop, d.Line)
		}
	}
	return f
}

func (f *faults) declarations(p api.Program) {
	seen := map[string]int{}
	there := func(what string, line int) {
		if seen[what]++; seen[what] > 1 {
			f.add(api.ErrThere, line)
		}
	}
	cells, atoms, most := 0, 0, 0
	for _, g := range p.Globals {
		there("name "+g.Name, g.Line)
		cells += max(g.Len, 1)
	}
	for _, g := range p.Gates {
		there("name "+g.Name, g.Line)
	}
	for _, d := range p.Funcs {
		if d.Kind == 1 {
			there("name "+d.Name, d.Line)
		}
	}
	for _, d := range p.Funcs {
		if d.Kind == 2 {
			there("main", d.Line)
		}
	}
	if seen["main"] == 0 {
		f.add(api.ErrNone, 0)
	}
	for _, d := range p.Funcs {
		if d.Kind == 3 {
			there(fmt.Sprint("line ", d.On), d.Line)
		}
		l := statements(d)
		atoms += len(kinds(l, 10))
		most = max(most, len(d.Params)+len(kinds(l, 1)))
	}
	if cells > 4096 || len(p.Funcs) > 64 || len(p.Gates) > 32 || most > 64 || atoms > 64 {
		f.add(api.ErrLong, 0)
	}
}

// kinds is the statements of a kind.
func kinds(l []stated, kind int) []stated {
	var some []stated
	for _, x := range l {
		if x.Kind == kind {
			some = append(some, x)
		}
	}
	return some
}

// statement adds the violations of one statement of a function.
func (f *faults) statement(p api.Program, d api.Decl, l []stated, at int) {
	x := l[at]
	used := func(name string, indexed bool) {
		g := globalOf(p, name)
		array := false
		switch {
		case isParam(d, name) || isLet(l, at, name):
		case g >= 0:
			array = p.Globals[g].Len != 0
		case gateOf(p, name) < 0:
			f.add(api.ErrName, x.Line)
			return
		}
		if array != indexed {
			f.add(api.ErrType, x.Line)
		}
	}
	if x.sections > 0 && (x.Kind == 6 || x.Kind == 10) {
		f.add(api.ErrType, x.Line)
	}
	for _, e := range behind(slices.Concat(x.Index, x.Expr)) {
		switch e.Kind {
		case 2, 3:
			used(e.Name, e.Kind == 3)
		case 4:
			if to := functionOf(p, e.Name); to < 0 {
				f.add(api.ErrName, x.Line)
			} else if len(p.Funcs[to].Params) != len(e.Args) {
				f.add(api.ErrType, x.Line)
			}
		}
	}
	switch {
	case x.Kind == 1 && (isParam(d, x.Name) || isLet(l, at, x.Name)):
		f.add(api.ErrThere, x.Line)
	case x.Kind == 2:
		used(x.Name, len(x.Index) > 0)
	case x.Kind == 10:
		for _, name := range x.Names {
			if globalOf(p, name) < 0 {
				f.add(api.ErrName, x.Line)
			}
		}
	}
}

// reached is the functions that a function calls, and that these call, and so
// on.
func reached(p api.Program, from int) []int {
	var all []int
	for next := []int{from}; len(next) > 0; next = next[1:] {
		for _, x := range statements(p.Funcs[next[0]]) {
			for _, e := range behind(slices.Concat(x.Index, x.Expr)) {
				if to := functionOf(p, e.Name); e.Kind == 4 && to >= 0 && !slices.Contains(all, to) {
					all, next = append(all, to), append(next, to)
				}
			}
		}
	}
	return all
}

// expectedFault is the first violation; no fault if there is none.
func expectedFault(p api.Program) api.Fault {
	return append(violations(p), api.Fault{})[0]
}

// expectedTables is the tables of a correct program.
func expectedTables(p api.Program) api.Tables {
	var t api.Tables
	var owners []string // of each cell
	for _, g := range p.Globals {
		t.Cells = append(t.Cells, api.Cells{Name: g.Name, At: len(owners), Len: g.Len, Type: g.Type})
		owners = append(owners, slices.Repeat([]string{g.Name}, max(1, g.Len))...)
	}
	for _, g := range p.Gates {
		t.Ports = append(t.Ports, g.Name)
	}
	for _, d := range p.Funcs {
		l := statements(d)
		t.Funcs = append(t.Funcs, api.Head{Kind: d.Kind, Name: d.Name, Params: d.Params, Slots: len(d.Params) + len(kinds(l, 1)), On: d.On, Prio: d.Prio})
		for _, x := range kinds(l, 10) {
			var cells []int
			for cell, owner := range owners {
				if slices.Contains(x.Names, owner) {
					cells = append(cells, cell)
				}
			}
			t.Atoms = append(t.Atoms, cells)
		}
	}
	return t
}

// What the operators on two words look at, to be signed and to be computed
// signed: nothing, the left operand, either one.
var (
	forSigned = map[int]int{1: 2, 2: 2, 3: 2, 4: 2, 5: 2, 8: 2, 9: 2, 10: 2, 11: 1, 12: 1}
	forGoes   = map[int]int{4: 2, 5: 2, 12: 1, 14: 2, 15: 2, 16: 2, 17: 2, 20: 2, 21: 2}
)

// expectedSigned reports whether a valid expression is signed.
func expectedSigned(t api.Tables, locals []api.Param, e api.Expr) bool {
	ty := 0
	for i := len(t.Cells) - 1; i >= 0; i-- {
		if t.Cells[i].Name == e.Name {
			ty = t.Cells[i].Type
		}
	}
	switch e.Kind {
	case 2:
		for _, x := range locals {
			if x.Name == e.Name {
				ty = x.Type
			}
		}
		return ty == 4
	case 3:
		return ty == 4
	case 5:
		return e.Op < 3 && expectedSigned(t, locals, e.Args[0])
	case 6:
		return anySigned(t, locals, e.Args[:forSigned[e.Op]])
	case 7:
		return e.Type == 4
	}
	return false
}

func anySigned(t api.Tables, locals []api.Param, l []api.Expr) bool {
	for _, e := range l {
		if expectedSigned(t, locals, e) {
			return true
		}
	}
	return false
}

// expectedGoes reports whether a valid expression is computed signed.
func expectedGoes(t api.Tables, locals []api.Param, e api.Expr) bool {
	return e.Kind == 6 && anySigned(t, locals, e.Args[:forGoes[e.Op]])
}

// copied is a copy that shares nothing with what it is made of, without empty
// lists.
func copied[T any](x T) T {
	v := reflect.New(reflect.TypeFor[T]()).Elem()
	copyInto(v, reflect.ValueOf(x))
	return v.Interface().(T)
}

func copyInto(to, from reflect.Value) {
	switch from.Kind() {
	case reflect.Slice:
		if from.Len() == 0 {
			return
		}
		to.Set(reflect.MakeSlice(from.Type(), from.Len(), from.Len()))
		for i := range from.Len() {
			copyInto(to.Index(i), from.Index(i))
		}
	case reflect.Struct:
		for i := range from.NumField() {
			copyInto(to.Field(i), from.Field(i))
		}
	default:
		to.Set(from)
	}
}

// vary changes one thing of a tree at a time, calls f with the way to it, and
// changes it back. Names become each of the given ones.
func vary[T any](x *T, names []string, f func(way string)) {
	varyAt(reflect.ValueOf(x).Elem(), names, "", f)
}

func varyAt(v reflect.Value, names []string, way string, f func(way string)) {
	try := func(x any) {
		before := reflect.New(v.Type()).Elem()
		before.Set(v)
		if v.Set(reflect.ValueOf(x).Convert(v.Type())); !reflect.DeepEqual(v.Interface(), before.Interface()) {
			f(fmt.Sprintf("%s = %v", way, x))
		}
		v.Set(before)
	}
	switch v.Kind() {
	case reflect.Struct:
		for i := range v.NumField() {
			varyAt(v.Field(i), names, way+"."+v.Type().Field(i).Name, f)
		}
	case reflect.Slice:
		one := reflect.MakeSlice(v.Type(), 1, 1)
		try(reflect.AppendSlice(v.Slice3(0, v.Len(), v.Len()), one).Interface())
		for i := range v.Len() {
			try(reflect.AppendSlice(v.Slice3(0, i, i), v.Slice(i+1, v.Len())).Interface())
			try(reflect.AppendSlice(v.Slice3(0, i+1, i+1), v.Slice(i, v.Len())).Interface())
			turned := reflect.AppendSlice(v.Slice3(0, 0, 0), v).Interface()
			reflect.Swapper(turned)(0, i)
			try(turned)
			varyAt(v.Index(i), names, fmt.Sprintf("%s[%d]", way, i), f)
		}
	case reflect.Int:
		for _, n := range []int{-1, 0, 1, 2, 3, 4, 5, 10, 31, 32, 4096} {
			try(n)
		}
		try(int(v.Int()) + 1)
		try(int(v.Int()) - 1)
	case reflect.Uint32:
		try(uint32(v.Uint()) + 1)
	case reflect.String:
		for _, s := range names {
			try(s)
		}
	case reflect.Bool:
		try(!v.Bool())
	}
}
