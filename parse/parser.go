package parse

import (
	"lamplighter/api"
	"lamplighter/ast"
	"lamplighter/lex"
)

// parser goes along the tokens of a source. The last one stands for the end
// and has no Kind.
type parser struct {
	tokens []api.Token
	at     int
}

// refusal is what is thrown when a source is refused.
type refusal struct {
	fault api.Fault
}

// parsed reads a whole source by a method of the parser. What is thrown
// meanwhile is caught here, and nowhere else.
func parsed[T any](s string, tree func(*parser) T) (t T, f api.Fault) {
	defer func() {
		switch r := recover().(type) {
		case nil:
		case refusal:
			f = r.fault
		default: // a fault of the parser, not of the source
			panic(r)
		}
	}()
	return tree(parserOf(s)), api.Fault{}
}

func parserOf(s string) *parser {
	tokens, f := lex.All(s)
	if f.Err != api.OK {
		panic(refusal{f})
	}
	line, column := lex.Line(s, len(s))
	return &parser{tokens: append(tokens, api.Token{Line: line, Column: column})}
}

func (p *parser) wholeProgram() api.Program {
	t := p.program()
	accept(ast.Check(t))
	return t
}

func (p *parser) wholeExpr() api.Expr {
	e := p.expr()
	p.end()
	accept(ast.CheckExpr(e))
	return e
}

func (p *parser) wholeStmts() []api.Stmt {
	var l []api.Stmt
	for !p.ended() {
		l = append(l, p.stmt())
	}
	for _, s := range l {
		accept(ast.CheckStmt(s))
	}
	return l
}

// accept refuses the whole source if its tree has an error.
func accept(e api.Errno) {
	switch e {
	case api.OK:
	case api.ErrLong:
		panic(refusal{api.Fault{Err: api.ErrLong}})
	default:
		panic(refusal{api.Fault{Err: api.ErrSyntax}})
	}
}

// refused is the refusal of the next token.
func (p *parser) refused() refusal {
	t := p.next()
	return refusal{api.Fault{Err: api.ErrSyntax, Line: t.Line, Column: t.Column}}
}

// next is the next token, which is not passed.
func (p *parser) next() api.Token {
	return p.tokens[p.at]
}

func (p *parser) ended() bool {
	return p.next().Kind == 0
}

func (p *parser) end() {
	if !p.ended() {
		panic(p.refused())
	}
}

// pass passes the next token if it is a certain keyword or sign, and reports
// whether it is.
func (p *parser) pass(text string) bool {
	if p.next().Text != text {
		return false
	}
	p.at++
	return true
}

// need passes keywords and signs that must follow.
func (p *parser) need(texts ...string) {
	for _, text := range texts {
		if !p.pass(text) {
			panic(p.refused())
		}
	}
}

// take passes a token that must be of a certain Kind.
func (p *parser) take(kind int) api.Token {
	t := p.next()
	if t.Kind != kind {
		panic(p.refused())
	}
	p.at++
	return t
}

func (p *parser) name() string {
	return p.take(api.TokWord).Text
}

func (p *parser) word() uint32 {
	return p.take(api.TokNumber).N
}

func (p *parser) number() int {
	return int(p.word())
}

// typed passes a type.
func (p *parser) typed() int {
	ty := typeOf(p.next().Text)
	if ty == 0 {
		panic(p.refused())
	}
	p.at++
	return ty
}

// typeOf is the type that a keyword tells; 0 if it tells none.
func typeOf(text string) int {
	switch text {
	case "u8":
		return api.TyU8
	case "u16":
		return api.TyU16
	case "u32":
		return api.TyU32
	case "i32":
		return api.TyI32
	}
	return 0
}

// list reads at least one element, and as many as follow commas.
func list[T any](p *parser, element func() T) []T {
	l := []T{element()}
	for p.pass(",") {
		l = append(l, element())
	}
	return l
}
