package parse

import (
	"lamplighter/api"
)

// operator is an operator on two operands: its sign, its number, and how
// strong it is.
type operator struct {
	sign      string
	op, level int
}

// The weakest level is 1, so that a token that is no operator, which has the
// level 0, ends every expression.
var operators = [...]operator{
	{"|", api.BinOr, 1},
	{"^", api.BinXor, 2},
	{"&", api.BinAnd, 3},
	{"==", api.BinEq, 4}, {"!=", api.BinNe, 4},
	{"<", api.BinLt, 5}, {"<=", api.BinLe, 5}, {">", api.ExGt, 5}, {">=", api.ExGe, 5},
	{"<<", api.BinShl, 6}, {">>", api.BinShr, 6},
	{"+", api.BinAdd, 7}, {"-", api.BinSub, 7},
	{"*", api.BinMul, 8}, {"/", api.BinDiv, 8}, {"%", api.BinRem, 8},
}

// weakest is the level of the weakest operators.
const weakest = 1

// operatorOf is the operator that a token is; one of the level 0 if it is none.
func operatorOf(t api.Token) operator {
	for _, o := range operators {
		if o.sign == t.Text {
			return o
		}
	}
	return operator{}
}

// unaryOf is the operator on one operand that a token is; 0 if it is none.
func unaryOf(t api.Token) int {
	switch t.Text {
	case "-":
		return api.UnNeg
	case "~":
		return api.UnNot
	case "!":
		return api.UnZero
	}
	return 0
}

func (p *parser) expr() api.Expr {
	return p.operation(weakest)
}

// operation reads operators of a level and above. The right operand ends ahead
// of the next operator of the same level, which makes them left-associative.
func (p *parser) operation(level int) api.Expr {
	left := p.unary()
	for {
		o := operatorOf(p.next())
		if o.level < level {
			return left
		}
		p.at++
		right := p.operation(o.level + 1)
		left = api.Expr{Kind: api.ExBin, Op: o.op, Args: []api.Expr{left, right}}
	}
}

func (p *parser) unary() api.Expr {
	op := unaryOf(p.next())
	if op == 0 {
		return p.primary()
	}
	p.at++
	return api.Expr{Kind: api.ExUn, Op: op, Args: []api.Expr{p.unary()}}
}

func (p *parser) primary() api.Expr {
	t := p.next()
	switch {
	case t.Kind == api.TokNumber:
		return api.Expr{Kind: api.ExNum, N: p.word()}
	case t.Kind == api.TokWord:
		return p.reference()
	case typeOf(t.Text) != 0:
		return api.Expr{Kind: api.ExCast, Type: p.typed(), Args: []api.Expr{p.grouped()}}
	}
	return p.grouped()
}

// reference reads what begins with a name in an expression.
func (p *parser) reference() api.Expr {
	name := p.name()
	switch {
	case p.pass("["):
		e := api.Expr{Kind: api.ExIndex, Name: name, Args: []api.Expr{p.expr()}}
		p.need("]")
		return e
	case p.pass("("):
		return api.Expr{Kind: api.ExCall, Name: name, Args: p.args()}
	}
	return api.Expr{Kind: api.ExVar, Name: name}
}

// args reads what follows the opening parenthesis of a call.
func (p *parser) args() []api.Expr {
	if p.pass(")") {
		return nil
	}
	l := list(p, p.expr)
	p.need(")")
	return l
}
