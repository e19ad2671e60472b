package check

import (
	"slices"

	"lamplighter/api"
)

// checker goes over the functions of a program whose declarations are in
// order, and completes its tables.
type checker struct {
	tables  api.Tables
	globals map[string]int // the numbers of what has a name
	ports   map[string]int
	funcs   map[string]int
	calls   graph
	now     int // the function that is being checked
}

// checkerOf knows all that is declared: a function may be called ahead of its
// declaration.
func checkerOf(p api.Program) *checker {
	c := &checker{globals: map[string]int{}, ports: map[string]int{}, funcs: map[string]int{}}
	end := 0
	for i, g := range p.Globals {
		c.globals[g.Name] = i
		c.tables.Cells = append(c.tables.Cells, api.Cells{Name: g.Name, At: end, Len: g.Len, Type: g.Type})
		end += size(g.Len)
	}
	for i, g := range p.Gates {
		c.ports[g.Name] = i
		c.tables.Ports = append(c.tables.Ports, g.Name)
	}
	for i, d := range p.Funcs {
		if d.Kind == api.KindFunc {
			c.funcs[d.Name] = i
		}
		c.tables.Funcs = append(c.tables.Funcs, head(d))
	}
	return c
}

func head(d api.Decl) api.Head {
	return api.Head{
		Kind: d.Kind, Name: d.Name, Params: slices.Clone(d.Params),
		Slots: slots(d), On: d.On, Prio: d.Prio,
	}
}

// program checks all functions, and then the calls among them.
func (c *checker) program(p api.Program) error {
	for i, d := range p.Funcs {
		c.now = i
		if err := c.function(d); err != nil {
			return err
		}
	}
	closed := c.calls.closed()
	for i, d := range p.Funcs {
		if closed.leads(i, i) {
			return at(d.Line, violation(api.ErrLoop))
		}
	}
	return nil
}

func (c *checker) function(d api.Decl) error {
	if err := params(d); err != nil {
		return err
	}
	s := within(nil)
	for _, p := range d.Params {
		s.locals[p.Name] = struct{}{}
	}
	return c.block(d.Body, s, false)
}

// section notes the cells of a section.
func (c *checker) section(names []string) error {
	var globals []int
	for _, name := range names {
		g, is := c.globals[name]
		if !is {
			return violation(api.ErrName)
		}
		globals = append(globals, g)
	}
	slices.Sort(globals)
	var cells []int
	for _, g := range slices.Compact(globals) { // a global may be named twice
		first := c.tables.Cells[g].At
		for i := range size(c.tables.Cells[g].Len) {
			cells = append(cells, first+i)
		}
	}
	c.tables.Atoms = append(c.tables.Atoms, cells)
	return nil
}

// use checks a name that stands with an index, or without one.
func (c *checker) use(name string, indexed bool, in *scope) error {
	g, isGlobal := c.globals[name]
	_, isPort := c.ports[name]
	isArray := false
	switch {
	case in.has(name):
	case isGlobal:
		isArray = c.tables.Cells[g].Len > 0
	case !isPort:
		return violation(api.ErrName)
	}
	if isArray != indexed {
		return violation(api.ErrType)
	}
	return nil
}

// call checks and notes a call with n Args.
func (c *checker) call(name string, n int) error {
	f, is := c.funcs[name]
	if !is {
		return violation(api.ErrName)
	}
	if len(c.tables.Funcs[f].Params) != n {
		return violation(api.ErrType)
	}
	c.calls.add(c.now, f)
	return nil
}
