package check

import (
	"slices"

	"lamplighter/api"
	"lamplighter/lines"
)

// declarations checks what is declared, ahead of all statements.
func declarations(p api.Program) error {
	for _, check := range []func(api.Program) error{names, mains, handlers, lengths} {
		if err := check(p); err != nil {
			return err
		}
	}
	return nil
}

// declared is a name, and the Line at which it is declared.
type declared struct {
	name string
	line int
}

// names checks that no two declarations have the same name. They stand as a
// program is printed: globals, ports, functions.
func names(p api.Program) error {
	var l []declared
	for _, g := range p.Globals {
		l = append(l, declared{g.Name, g.Line})
	}
	for _, g := range p.Gates {
		l = append(l, declared{g.Name, g.Line})
	}
	for _, d := range p.Funcs {
		if d.Kind == api.KindFunc {
			l = append(l, declared{d.Name, d.Line})
		}
	}
	return distinct(l)
}

// params checks that no two Params of a function have the same name.
func params(d api.Decl) error {
	var l []declared
	for _, p := range d.Params {
		l = append(l, declared{p.Name, d.Line})
	}
	return distinct(l)
}

func distinct(l []declared) error {
	seen := map[string]struct{}{}
	for _, x := range l {
		if _, there := seen[x.name]; there {
			return at(x.line, violation(api.ErrThere))
		}
		seen[x.name] = struct{}{}
	}
	return nil
}

// mains checks that there is exactly one main.
func mains(p api.Program) error {
	found := false
	for _, d := range p.Funcs {
		if d.Kind != api.KindMain {
			continue
		}
		if found {
			return at(d.Line, violation(api.ErrThere))
		}
		found = true
	}
	if !found {
		return violation(api.ErrNone)
	}
	return nil
}

// handlers checks that each line has one handler at most.
func handlers(p api.Program) error {
	var handled uint32
	for _, d := range p.Funcs {
		if d.Kind != api.KindOn {
			continue
		}
		if lines.Has(handled, d.On) {
			return at(d.Line, violation(api.ErrThere))
		}
		line, _ := lines.Of(d.On) // a valid program names no other line
		handled |= line
	}
	return nil
}

// lengths checks that there is not more of anything than an image may have.
func lengths(p api.Program) error {
	cells, atoms := 0, 0
	for _, g := range p.Globals {
		cells += size(g.Len)
	}
	for _, d := range p.Funcs {
		atoms += count(api.StAtomic, d.Body)
	}
	if cells > api.MaxCells || atoms > api.MaxAtoms ||
		len(p.Funcs) > api.MaxFuncs || len(p.Gates) > api.MaxPorts ||
		slices.ContainsFunc(p.Funcs, func(d api.Decl) bool { return slots(d) > api.MaxLocals }) {
		return violation(api.ErrLong)
	}
	return nil
}

// size is how many cells a global of a Len has.
func size(n int) int {
	return max(n, 1) // a scalar, whose Len is 0, has one
}

// slots is how many slots a function has.
func slots(d api.Decl) int {
	return len(d.Params) + count(api.StLet, d.Body)
}

// count is how many statements of a kind there are in blocks, and in the
// blocks in these.
func count(kind int, blocks ...[]api.Stmt) int {
	n := 0
	for _, l := range blocks {
		for _, s := range l {
			if s.Kind == kind {
				n++
			}
			n += count(kind, s.Then, s.Else)
		}
	}
	return n
}
