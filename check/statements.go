package check

import (
	"lamplighter/api"
)

// block checks statements one after the other; s has the locals that are in
// scope ahead of them, and gets theirs.
func (c *checker) block(l []api.Stmt, s *scope, inSection bool) error {
	for _, x := range l {
		if err := at(x.Line, c.alone(x, s, inSection)); err != nil {
			return err
		}
		if err := c.inside(x, s, inSection || x.Kind == api.StAtomic); err != nil {
			return err
		}
	}
	return nil
}

// inside checks the statements in a statement.
func (c *checker) inside(x api.Stmt, s *scope, inSection bool) error {
	if err := c.block(x.Then, within(s), inSection); err != nil {
		return err
	}
	return c.block(x.Else, within(s), inSection)
}

// alone checks a statement without the statements in it.
func (c *checker) alone(x api.Stmt, s *scope, inSection bool) error {
	if inSection && leaves(x.Kind) {
		return violation(api.ErrType)
	}
	for _, l := range [][]api.Expr{x.Index, x.Expr} {
		if err := c.exprs(l, s); err != nil {
			return err
		}
	}
	switch x.Kind {
	case api.StLet:
		return s.add(x.Name)
	case api.StSet:
		return c.use(x.Name, len(x.Index) > 0, s)
	case api.StAtomic:
		return c.section(x.Names)
	}
	return nil
}

// leaves reports whether a statement would leave a section open, or open
// another one in it.
func leaves(kind int) bool {
	return kind == api.StReturn || kind == api.StAtomic
}

// exprs checks expressions, of each its Args ahead of itself.
func (c *checker) exprs(l []api.Expr, s *scope) error {
	for _, e := range l {
		if err := c.exprs(e.Args, s); err != nil {
			return err
		}
		if err := c.expr(e, s); err != nil {
			return err
		}
	}
	return nil
}

func (c *checker) expr(e api.Expr, s *scope) error {
	switch e.Kind {
	case api.ExVar, api.ExIndex:
		return c.use(e.Name, e.Kind == api.ExIndex, s)
	case api.ExCall:
		return c.call(e.Name, len(e.Args))
	}
	return nil
}
