package parse

import (
	"lamplighter/api"
)

func (p *parser) block() []api.Stmt {
	p.need("{")
	var l []api.Stmt
	for !p.pass("}") {
		l = append(l, p.stmt())
	}
	return l
}

func (p *parser) stmt() api.Stmt {
	first := p.next()
	s := p.contents(first)
	s.Line = first.Line
	return s
}

// contents reads a statement by its first token, but for its Line.
func (p *parser) contents(first api.Token) api.Stmt {
	if first.Kind == api.TokWord {
		return p.named()
	}
	switch first.Text {
	case "u8", "u16", "u32", "i32":
		return p.let()
	case "if":
		return p.choice()
	case "while":
		p.need("while")
		return api.Stmt{Kind: api.StWhile, Expr: []api.Expr{p.grouped()}, Then: p.block()}
	case "return":
		p.need("return")
		return api.Stmt{Kind: api.StReturn, Expr: p.last()}
	case "enable":
		return p.numbered(api.StEnable, first.Text)
	case "disable":
		return p.numbered(api.StDisable, first.Text)
	case "level":
		return p.numbered(api.StLevel, first.Text)
	case "atomic":
		return p.atomic()
	}
	panic(p.refused())
}

// named reads a statement that begins with a name.
func (p *parser) named() api.Stmt {
	name := p.name()
	switch {
	case p.pass("="):
		return api.Stmt{Kind: api.StSet, Name: name, Expr: p.last()}
	case p.pass("["):
		s := api.Stmt{Kind: api.StSet, Name: name, Index: []api.Expr{p.expr()}}
		p.need("]", "=")
		s.Expr = p.last()
		return s
	case p.pass("("):
		call := api.Expr{Kind: api.ExCall, Name: name, Args: p.args()}
		p.need(";")
		return api.Stmt{Kind: api.StCall, Expr: []api.Expr{call}}
	}
	panic(p.refused())
}

func (p *parser) let() api.Stmt {
	s := api.Stmt{Kind: api.StLet, Type: p.typed(), Name: p.name()}
	p.need("=")
	s.Expr = p.last()
	return s
}

func (p *parser) choice() api.Stmt {
	p.need("if")
	s := api.Stmt{Kind: api.StIf, Expr: []api.Expr{p.grouped()}, Then: p.block()}
	if p.pass("else") {
		s.Else = p.block()
	}
	return s
}

func (p *parser) numbered(kind int, text string) api.Stmt {
	p.need(text)
	s := api.Stmt{Kind: kind, N: p.number()}
	p.need(";")
	return s
}

func (p *parser) atomic() api.Stmt {
	p.need("atomic", "(")
	s := api.Stmt{Kind: api.StAtomic, Names: list(p, p.name)}
	p.need(")")
	s.Then = p.block()
	return s
}

// grouped reads an expression in parentheses.
func (p *parser) grouped() api.Expr {
	p.need("(")
	e := p.expr()
	p.need(")")
	return e
}

// last reads the expression with which a statement ends.
func (p *parser) last() []api.Expr {
	e := p.expr()
	p.need(";")
	return []api.Expr{e}
}
