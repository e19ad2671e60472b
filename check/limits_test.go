package check_test

import (
	"math"
	"slices"
	"testing"

	"lamplighter/api"
	"lamplighter/check"
)

var (
	fine = api.Fault{}
	long = api.Fault{Err: api.ErrLong}
)

// TestP91Cells: MaxCells cells and one more, as arrays and as scalars.
func TestP91Cells(t *testing.T) {
	for _, x := range []struct {
		lens []int
		want api.Fault
	}{
		{[]int{4096}, fine}, {[]int{4095, 0}, fine}, {[]int{4095, 1}, fine}, {[]int{0, 4094, 0}, fine}, {[]int{1365, 1365, 1366}, fine},
		{slices.Repeat([]int{0}, 4096), fine}, {slices.Repeat([]int{1}, 4096), fine}, {slices.Repeat([]int{64}, 64), fine},
		{[]int{4096, 0}, long}, {[]int{4096, 1}, long}, {[]int{0, 4096}, long}, {[]int{4095, 0, 0}, long}, {[]int{4095, 2}, long}, {[]int{4096, 4096}, long},
		{slices.Repeat([]int{0}, 4097), long}, {slices.Repeat([]int{1}, 4097), long}, {append(slices.Repeat([]int{64}, 64), 0), long}, {slices.Repeat([]int{4096}, 9000), long},
	} {
		p := api.Program{Stack: 1, Funcs: []api.Decl{begins()}}
		for i, name := range names(len(x.lens)) {
			p.Globals = append(p.Globals, api.Global{Name: name, Type: 1 + i%4, Len: x.lens[i]})
		}
		p = lined(p)
		finds(t, "cells", p, x.want)
		last := p.Globals[len(p.Globals)-1]
		p.Funcs[0].Body = []api.Stmt{atomic([]string{last.Name}, plain(api.StLevel, 1))}
		finds(t, "cells, with a section", p, x.want)
		if tables, _ := check.Tables(p); x.want == fine {
			if l := tables.Atoms[0]; l[len(l)-1] != cellsOf(p)-1 || len(l) != max(1, last.Len) {
				t.Errorf("the last of %d cells: %d to %d", cellsOf(p), l[0], l[len(l)-1])
			}
		}
	}
}

func cellsOf(p api.Program) int {
	n := 0
	for _, g := range p.Globals {
		n += max(g.Len, 1)
	}
	return n
}

// TestP91Funcs: MaxFuncs functions and one more, of all kinds together.
func TestP91Funcs(t *testing.T) {
	for n := 61; n <= 67; n++ {
		for handlers := 0; handlers <= 32; handlers += 8 {
			p := api.Program{Stack: 1, Funcs: []api.Decl{begins()}}
			for line := range handlers {
				p.Funcs = append(p.Funcs, on(line, 3))
			}
			all := names(n - len(p.Funcs))
			for i, name := range all {
				d := function(name, nil)
				if i > 0 {
					d.Body = []api.Stmt{calls(all[i-1])}
				}
				p.Funcs = append(p.Funcs, d)
			}
			want := fine
			if n > 64 {
				want = long
			}
			p = lined(p)
			finds(t, "functions", p, want)
			slices.Reverse(p.Funcs)
			finds(t, "functions from the last one on", p, want)
		}
	}
}

// TestP91FuncsLoop: a recursion over the last functions that there may be.
func TestP91FuncsLoop(t *testing.T) {
	p := api.Program{Stack: 1, Funcs: []api.Decl{begins()}}
	all := names(63)
	for i, name := range all {
		p.Funcs = append(p.Funcs, function(name, nil, calls(all[min(i+1, 62)])))
	}
	p = lined(p)
	finds(t, "the last one calls itself", p, api.Fault{Err: api.ErrLoop, Line: p.Funcs[63].Line})
	p.Funcs[63].Body = []api.Stmt{calls(all[0])}
	finds(t, "the last one calls the first one", p, api.Fault{Err: api.ErrLoop, Line: p.Funcs[1].Line})
	p.Funcs[63].Body = nil
	finds(t, "the last one calls none", p, fine)
}

// TestP91Ports: MaxPorts ports and one more.
func TestP91Ports(t *testing.T) {
	for n, want := range map[int]api.Fault{31: fine, 32: fine, 33: long, 34: long, 5000: long} {
		p := with()
		p.Gates = nil
		for i, name := range names(n) {
			p.Gates = append(p.Gates, api.Gate{Name: name, Read: i%2 == 0, Write: i%3 > 0 || i%2 > 0})
		}
		p = lined(p)
		finds(t, "ports", p, want)
		p.Funcs[0].Body = []api.Stmt{set(p.Gates[n-1].Name, named(p.Gates[n/2].Name))}
		finds(t, "ports that are used", p, want)
	}
}

// TestP91Locals: MaxLocals slots in a function and one more, however the lets
// are distributed, with Params and without.
func TestP91Locals(t *testing.T) {
	for n, want := range map[int]api.Fault{63: fine, 64: fine, 65: long, 66: long, 900: long} {
		var flat, apart, deep []api.Stmt
		for _, name := range names(n) {
			flat = append(flat, let(name, 1, num(1)))
			apart = append(apart, when(num(1), []api.Stmt{let("same", 1, num(1))}, nil))
		}
		for i := 0; i < n; i += 2 {
			deep = append(deep, when(num(1), []api.Stmt{while(num(1), let("same", 1, num(1)))}, nil))
		}
		for i := 1; i < n; i += 2 {
			deep = append(deep, when(num(1), nil, []api.Stmt{atomic([]string{"u"}, let("same", 1, num(1)))}))
		}
		for _, body := range [][]api.Stmt{flat, apart, deep} {
			finds(t, "lets in main", with(body...), want)
			p := with()
			p.Funcs = append(p.Funcs, on(1, 1, body...))
			finds(t, "lets in a handler", lined(p), want)
			p.Funcs[3] = function("h", nil, body...)
			finds(t, "lets in a function", lined(p), want)
			for params := 1; params <= 8; params++ {
				p.Funcs[3].Params = append(p.Funcs[3].Params, api.Param{Name: names(2000)[1000+params], Type: 1})
				p.Funcs[3].Body = body[min(params, len(body)):]
				if len(body) == n {
					finds(t, "Params and lets", lined(p), want)
				}
			}
		}
		p := with(flat[:60]...)
		p.Funcs = append(p.Funcs, on(1, 1, flat[:60]...), function("h", nil, flat[:60]...))
		finds(t, "lets in several functions", lined(p), fine)
	}
}

// TestP91LocalsDeep: lets in blocks within blocks, as deep as they may be.
func TestP91LocalsDeep(t *testing.T) {
	var l []api.Stmt
	all := names(58)
	for i := range all {
		e := num(1)
		if at := len(all) - 1 - i; at > 0 {
			e = named(all[at-1])
		}
		name := all[len(all)-1-i]
		l = []api.Stmt{let(name, 1, e), set(name, named(all[0])), while(named(name), l...)}
	}
	p := with(l...)
	finds(t, "deep", p, fine)
	p.Funcs[0].Body[2].Expr[0].Name = all[1]
	finds(t, "a local of the block ahead of it", p, api.Fault{Err: api.ErrName, Line: p.Funcs[0].Body[2].Line})
}

// TestP91Atoms: MaxAtoms sections and one more, in one function and in several.
func TestP91Atoms(t *testing.T) {
	section := atomic([]string{"il", "u"}, plain(api.StLevel, 1))
	for n, want := range map[int]api.Fault{63: fine, 64: fine, 65: long, 66: long, 1000: long} {
		l := slices.Repeat([]api.Stmt{section}, n)
		finds(t, "sections", with(l...), want)
		finds(t, "sections in blocks", with(when(num(1), l[:20], l[20:40]), while(num(1), l[40:]...)), want)
		p := with(l[:20]...)
		p.Funcs[1].Body = l[20:40]
		p.Funcs = append(p.Funcs, on(1, 1, l[40:]...))
		finds(t, "sections in several functions", lined(p), want)
	}
	l := slices.Repeat([]api.Stmt{while(num(1), atomic([]string{"no"}, section))}, 33)
	finds(t, "sections in sections", with(l...), long)
	finds(t, "not too many sections in sections", with(l[1:]...), api.Fault{Err: api.ErrName, Line: 9})
}

// TestP91Numbers: the numbers are the document's.
func TestP91Numbers(t *testing.T) {
	if api.MaxCells != 4096 || api.MaxFuncs != 64 || api.MaxPorts != 32 || api.MaxLocals != 64 || api.MaxAtoms != 64 {
		t.Error("the limits of package api are others")
	}
	if api.ErrArg != 2 || api.ErrLong != 3 || api.ErrNone != 6 || api.ErrThere != 7 || api.ErrLoop != 13 || api.ErrName != 15 || api.ErrType != 16 {
		t.Error("the errors of package api are others")
	}
}

// TestP91Handlers: each line may have a handler, and none two.
func TestP91Handlers(t *testing.T) {
	p := with()
	for line := range 32 {
		p.Funcs = append(p.Funcs, on(31-line, 15))
	}
	p = lined(p)
	finds(t, "a handler of each line", p, fine)
	for line := range 32 {
		q := lined(p)
		q.Funcs = append(q.Funcs, on(line, 1))
		q.Funcs[35].Line = math.MaxInt
		finds(t, "one more", q, api.Fault{Err: api.ErrThere, Line: math.MaxInt})
	}
}

// TestP91Sizes: a program that has as many parts as there may be.
func TestP91Sizes(t *testing.T) {
	finds(t, "4000 statements", with(many(3998)...), fine)
	finds(t, "many uses", with(slices.Repeat([]api.Stmt{setAt("ul", named("u"), index("il", named("p")))}, 700)...), fine)
	sections := slices.Repeat([]string{"il", "ul", "u"}, 30000)
	finds(t, "a section with many names", with(atomic(sections)), fine)
	finds(t, "a section with many names and a wrong one", with(atomic(append(sections, "p"))), api.Fault{Err: api.ErrName, Line: 8})
	e := named("u")
	for range 58 {
		e = bin(1, e, named("i"))
	}
	finds(t, "deep", with(returns(e)), fine)
}
