package check_test

import (
	"fmt"
	"slices"

	"lamplighter/api"
)

// numbers is a fixed row of numbers that follow no plain pattern.
type numbers uint64

// below is the next number of the row, made one from 0 to n-1.
func (r *numbers) below(n int) int {
	*r = *r*6364136223846793005 + 1442695040888963407
	return int(*r>>36) % n
}

// among is one of some elements.
func among[T any](r *numbers, l []T) T {
	return l[r.below(len(l))]
}

// pool is the names of which programs are made: few, so that locals hide what
// is global.
var pool = []string{"a", "b", "c", "d", "e", "f", "g", "h", "k", "l", "m", "n"}

// writer writes correct programs.
type writer struct {
	*numbers
	p      api.Program
	rank   []int // a function calls only those of a higher one
	now    int   // the rank of the function that is written
	locals [][]string
	lets   int
	atoms  int
}

// program is a correct program.
func (r *numbers) program() api.Program {
	w := &writer{numbers: r, p: api.Program{Stack: 1 + r.below(65536)}}
	names := slices.Clone(pool)
	for i := range names {
		j := r.below(i + 1)
		names[i], names[j] = names[j], names[i]
	}
	take := func() string {
		name := names[0]
		names = names[1:]
		return name
	}
	for range r.below(5) {
		w.p.Globals = append(w.p.Globals, api.Global{Name: take(), Type: 1 + r.below(4), Len: r.below(2) * r.below(6)})
	}
	for range r.below(3) {
		w.p.Gates = append(w.p.Gates, api.Gate{Name: take(), Read: true, Write: r.below(2) == 0})
	}
	for range r.below(5) {
		d := function(take(), nil)
		for _, name := range pool[:r.below(4)] {
			d.Params = append(d.Params, api.Param{Name: name, Type: 1 + r.below(4)})
		}
		w.p.Funcs = append(w.p.Funcs, d)
	}
	w.p.Funcs = append(w.p.Funcs, begins())
	for _, line := range []int{r.below(10), 10 + r.below(10), 20 + r.below(12)}[:r.below(4)] {
		w.p.Funcs = append(w.p.Funcs, on(line, 1+r.below(15)))
	}
	for i := range w.p.Funcs {
		j := r.below(i + 1)
		w.p.Funcs[i], w.p.Funcs[j] = w.p.Funcs[j], w.p.Funcs[i]
	}
	for range w.p.Funcs {
		w.rank = append(w.rank, r.below(5))
	}
	for i := range w.p.Funcs {
		w.body(i)
	}
	return lined(w.p)
}

func (w *writer) body(i int) {
	d := &w.p.Funcs[i]
	w.lets, w.now = len(d.Params), w.rank[i]
	if d.Kind != api.KindFunc {
		w.now = -1
	}
	w.locals = [][]string{{}}
	for _, x := range d.Params {
		w.locals[0] = append(w.locals[0], x.Name)
	}
	d.Body = w.block(2+w.below(5), 5, false)
}

func (w *writer) isLocal(name string) bool {
	return slices.ContainsFunc(w.locals, func(l []string) bool { return slices.Contains(l, name) })
}

// scalars is what may be used without an index, and arrays what needs one.
func (w *writer) scalars() []string {
	l := slices.Concat(w.locals...)
	for _, g := range w.p.Globals {
		if g.Len == 0 && !w.isLocal(g.Name) {
			l = append(l, g.Name)
		}
	}
	for _, g := range w.p.Gates {
		if !w.isLocal(g.Name) {
			l = append(l, g.Name)
		}
	}
	return l
}

func (w *writer) arrays() []string {
	var l []string
	for _, g := range w.p.Globals {
		if g.Len > 0 && !w.isLocal(g.Name) {
			l = append(l, g.Name)
		}
	}
	return l
}

// callable is the functions that may be called without recursion.
func (w *writer) callable() []api.Decl {
	var l []api.Decl
	for i, d := range w.p.Funcs {
		if d.Kind == api.KindFunc && w.rank[i] > w.now {
			l = append(l, d)
		}
	}
	return l
}

func (w *writer) called(deep int) api.Expr {
	d := among(w.numbers, w.callable())
	e := call(d.Name)
	for range d.Params {
		e.Args = append(e.Args, w.expr(deep-1))
	}
	return e
}

func (w *writer) expr(deep int) api.Expr {
	kind := 1 + w.below(8)
	if deep < 2 {
		kind = 1 + w.below(2)
	}
	switch {
	case kind == 2 && len(w.scalars()) > 0:
		return named(among(w.numbers, w.scalars()))
	case kind == 3 && len(w.arrays()) > 0:
		return index(among(w.numbers, w.arrays()), w.expr(deep-1))
	case kind == 4 && len(w.callable()) > 0:
		return w.called(deep)
	case kind == 5:
		return un(1+w.below(3), w.expr(deep-1))
	case kind == 6:
		return cast(1+w.below(4), w.expr(deep-1))
	case kind > 6:
		return bin(among(w.numbers, binaries()), w.expr(deep-1), w.expr(deep-1))
	}
	return num(uint32(w.below(300)))
}

// block is up to n statements, nested about that deep.
func (w *writer) block(n, deep int, section bool) []api.Stmt {
	w.locals = append(w.locals, []string{})
	var l []api.Stmt
	for range w.below(n + 1) {
		l = append(l, w.stmt(deep, section))
	}
	w.locals = w.locals[:len(w.locals)-1]
	return l
}

func (w *writer) stmt(deep int, section bool) api.Stmt {
	kind := 1 + w.below(12)
	e := w.expr(3)
	switch {
	case kind == 1 && w.lets < 64:
		if name := among(w.numbers, pool); !w.isLocal(name) {
			w.lets++
			w.locals[len(w.locals)-1] = append(w.locals[len(w.locals)-1], name)
			return let(name, 1+w.below(4), e)
		}
	case kind == 2 && len(w.scalars()) > 0:
		return set(among(w.numbers, w.scalars()), e)
	case kind == 11 && len(w.arrays()) > 0:
		return setAt(among(w.numbers, w.arrays()), w.expr(3), e)
	case kind == 3 && len(w.callable()) > 0:
		return api.Stmt{Kind: api.StCall, Expr: one(w.called(3))}
	case kind == 4 && deep > 1:
		return when(e, w.block(3, deep-1, section), w.block(2, deep-1, section))
	case kind == 5 && deep > 1:
		return while(e, w.block(3, deep-1, section)...)
	case kind == 6 && !section:
		return returns(e)
	case (kind == 10 || kind == 12) && !section && len(w.p.Globals) > 0 && w.atoms < 64:
		w.atoms++
		var names []string
		for range 1 + w.below(3) {
			names = append(names, among(w.numbers, w.p.Globals).Name)
		}
		return atomic(names, w.block(3, deep-1, true)...)
	}
	return plain(api.StEnable+w.below(3), w.below(16))
}

// programs is correct programs: the smallest one, those with all there is, and
// others.
func programs() []api.Program {
	l := []api.Program{{Stack: 1, Funcs: []api.Decl{begins()}}, firmware(), with(everyStatement()...), with()}
	for _, e := range everyExpression() {
		l[3].Funcs[0].Body = append(l[3].Funcs[0].Body, setAt("ul", e, e), while(e))
	}
	l[3] = lined(l[3])
	r := numbers(1)
	for range 500 {
		l = append(l, r.program())
	}
	return l
}

// muddled is a program with names that are taken at random.
func (r *numbers) muddled() api.Program {
	p := r.program()
	names := append([]string{"zz"}, pool[:3]...)
	change := func(name *string) {
		if *name != "" && r.below(12) == 0 {
			*name = among(r, names)
		}
	}
	var exprs func(l []api.Expr)
	exprs = func(l []api.Expr) {
		for i := range l {
			change(&l[i].Name)
			exprs(l[i].Args)
		}
	}
	var stmts func(l []api.Stmt)
	stmts = func(l []api.Stmt) {
		for i := range l {
			change(&l[i].Name)
			for j := range l[i].Names {
				change(&l[i].Names[j])
			}
			exprs(l[i].Index)
			exprs(l[i].Expr)
			stmts(l[i].Then)
			stmts(l[i].Else)
		}
	}
	for i := range p.Globals {
		change(&p.Globals[i].Name)
	}
	for i := range p.Gates {
		change(&p.Gates[i].Name)
	}
	for i := range p.Funcs {
		change(&p.Funcs[i].Name)
		stmts(p.Funcs[i].Body)
	}
	if r.below(10) == 0 {
		p.Funcs = append(p.Funcs, among(r, p.Funcs))
	}
	return p
}

// tangled is a program with some more calls, which may make it recursive.
func (r *numbers) tangled() api.Program {
	p := r.program()
	for range 1 + r.below(4) {
		d, to := &p.Funcs[r.below(len(p.Funcs))], among(r, p.Funcs)
		if to.Kind == api.KindFunc {
			d.Body = append(d.Body, calls(to.Name, slices.Repeat(one(num(1)), len(to.Params))...))
		}
	}
	return p
}

// names is the names of globals that are made in great numbers.
func names(n int) []string {
	var l []string
	for i := range n {
		l = append(l, fmt.Sprint("n", i))
	}
	return l
}
