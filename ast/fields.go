package ast

import (
	"lamplighter/api"
)

// exprFields is what an expression has, in a form that can be compared: a list
// is its length.
type exprFields struct {
	kind, op, ty int
	n            uint32
	name         string
	args         int
}

func (e expression) fields() exprFields {
	return exprFields{kind: e.Kind, op: e.Op, ty: e.Type, n: e.N, name: e.Name, args: len(e.Args)}
}

// valid reports whether an expression has what its Kind has, and nothing else.
// Its Args are parts of their own.
func (e expression) valid() bool {
	f := e.fields()
	switch e.Kind {
	case api.ExNum:
		return f == exprFields{kind: e.Kind, n: e.N}
	case api.ExVar:
		return f == exprFields{kind: e.Kind, name: e.Name} && isName(e.Name)
	case api.ExIndex:
		return f == exprFields{kind: e.Kind, name: e.Name, args: 1} && isName(e.Name)
	case api.ExCall:
		return f == exprFields{kind: e.Kind, name: e.Name, args: f.args} && isName(e.Name) && f.args <= api.MaxParams
	case api.ExUn:
		return f == exprFields{kind: e.Kind, op: e.Op, args: 1} && isUn(e.Op)
	case api.ExBin:
		return f == exprFields{kind: e.Kind, op: e.Op, args: 2} && isBin(e.Op)
	case api.ExCast:
		return f == exprFields{kind: e.Kind, ty: e.Type, args: 1} && isType(e.Type)
	}
	return false
}

// stmtFields is the same of a statement, without its Line, which any Kind has.
type stmtFields struct {
	kind, ty, n                         int
	name                                string
	names, index, expr, then, otherwise int
}

func (s statement) fields() stmtFields {
	return stmtFields{
		kind: s.Kind, ty: s.Type, n: s.N, name: s.Name, names: len(s.Names),
		index: len(s.Index), expr: len(s.Expr), then: len(s.Then), otherwise: len(s.Else),
	}
}

// valid reports whether a statement has what its Kind has, and nothing else.
// What is in it are parts of their own.
func (s statement) valid() bool {
	return isSourceLine(s.Line) && s.fits()
}

func (s statement) fits() bool {
	f := s.fields()
	switch s.Kind {
	case api.StLet:
		return f == stmtFields{kind: s.Kind, name: s.Name, ty: s.Type, expr: 1} && isName(s.Name) && isType(s.Type)
	case api.StSet:
		return f == stmtFields{kind: s.Kind, name: s.Name, index: f.index, expr: 1} && isName(s.Name) && f.index <= 1
	case api.StCall:
		return f == stmtFields{kind: s.Kind, expr: 1} && s.Expr[0].Kind == api.ExCall
	case api.StIf:
		return f == stmtFields{kind: s.Kind, expr: 1, then: f.then, otherwise: f.otherwise}
	case api.StWhile:
		return f == stmtFields{kind: s.Kind, expr: 1, then: f.then}
	case api.StReturn:
		return f == stmtFields{kind: s.Kind, expr: 1}
	case api.StEnable, api.StDisable:
		return f == stmtFields{kind: s.Kind, n: s.N} && isLine(s.N)
	case api.StLevel:
		return f == stmtFields{kind: s.Kind, n: s.N} && isLevel(s.N)
	case api.StAtomic:
		return f == stmtFields{kind: s.Kind, names: f.names, then: f.then} && f.names > 0 && all(s.Names, isName)
	}
	return false
}
