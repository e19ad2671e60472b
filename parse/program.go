package parse

import (
	"lamplighter/api"
)

func (p *parser) program() api.Program {
	p.need("stack")
	t := api.Program{Stack: p.number()}
	p.need(";")
	for !p.ended() {
		p.declaration(&t)
	}
	return t
}

// declaration adds the next declaration to a program.
func (p *parser) declaration(t *api.Program) {
	first := p.next()
	switch first.Text {
	case "port":
		t.Gates = append(t.Gates, p.gate(first.Line))
	case "func", "main", "on":
		t.Funcs = append(t.Funcs, p.function(first))
	default:
		t.Globals = append(t.Globals, p.global(first.Line))
	}
}

func (p *parser) global(line int) api.Global {
	g := api.Global{Type: p.typed(), Name: p.name(), Line: line}
	if p.pass("[") {
		g.Len = p.length()
		p.need("]")
	}
	if p.pass("=") {
		g.Init = list(p, p.word)
	}
	p.need(";")
	return g
}

// noLength is not valid as a length.
const noLength = -1

// length tells an array without cells, which is not allowed, from a scalar,
// which has the length 0 in a tree.
func (p *parser) length() int {
	if n := p.number(); n != 0 {
		return n
	}
	return noLength
}

func (p *parser) gate(line int) api.Gate {
	p.need("port")
	g := api.Gate{Line: line}
	switch {
	case p.pass("read"):
		g.Read = true
	case p.pass("write"):
		g.Write = true
	default:
		p.need("both")
		g.Read, g.Write = true, true
	}
	g.Name = p.name()
	p.need(";")
	return g
}

func (p *parser) function(first api.Token) api.Decl {
	p.need(first.Text)
	d := api.Decl{Line: first.Line}
	switch first.Text {
	case "func":
		d.Kind, d.Name = api.KindFunc, p.name()
		d.Params = p.params()
	case "main":
		d.Kind = api.KindMain
	case "on":
		d.Kind, d.On = api.KindOn, p.number()
		p.need("prio")
		d.Prio = p.number()
	}
	d.Body = p.block()
	return d
}

func (p *parser) params() []api.Param {
	p.need("(")
	if p.pass(")") {
		return nil
	}
	l := list(p, p.param)
	p.need(")")
	return l
}

func (p *parser) param() api.Param {
	return api.Param{Type: p.typed(), Name: p.name()}
}
