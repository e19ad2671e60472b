package ast

import (
	"slices"

	"lamplighter/api"
	"lamplighter/lex"
	"lamplighter/word"
)

// isProgram reports whether all of a program but its statements is valid.
func isProgram(p api.Program) bool {
	return 1 <= p.Stack && p.Stack <= api.MaxStack &&
		all(p.Globals, isGlobal) && all(p.Gates, isGate) && all(p.Funcs, isFunction)
}

func isGlobal(g api.Global) bool {
	return isName(g.Name) && isType(g.Type) &&
		0 <= g.Len && g.Len <= api.MaxCells &&
		len(g.Init) <= max(g.Len, 1) && // a scalar, whose Len is 0, has a word
		isSourceLine(g.Line)
}

func isGate(g api.Gate) bool {
	return isName(g.Name) && (g.Read || g.Write) && isSourceLine(g.Line)
}

// declFields is the same of a function, without its Line and its Body, which
// any Kind has.
type declFields struct {
	kind, on, prio int
	name           string
	params         int
}

func fieldsOf(d api.Decl) declFields {
	return declFields{kind: d.Kind, on: d.On, prio: d.Prio, name: d.Name, params: len(d.Params)}
}

func isFunction(d api.Decl) bool {
	return isSourceLine(d.Line) && fits(d)
}

// fits reports whether a function has what its Kind has, and nothing else.
func fits(d api.Decl) bool {
	f := fieldsOf(d)
	switch d.Kind {
	case api.KindFunc:
		return f == declFields{kind: d.Kind, name: d.Name, params: f.params} && isName(d.Name) &&
			f.params <= api.MaxParams && all(d.Params, isParam)
	case api.KindMain:
		return f == declFields{kind: d.Kind}
	case api.KindOn:
		return f == declFields{kind: d.Kind, on: d.On, prio: d.Prio} && isLine(d.On) && isPrio(d.Prio)
	}
	return false
}

func isParam(p api.Param) bool {
	return isName(p.Name) && isType(p.Type)
}

func sameGlobal(a, b api.Global) bool {
	return a.Name == b.Name && a.Type == b.Type && a.Len == b.Len && slices.Equal(a.Init, b.Init)
}

func sameGate(a, b api.Gate) bool {
	a.Line, b.Line = 0, 0 // these are copies
	return a == b
}

func sameFunction(a, b api.Decl) bool {
	return fieldsOf(a) == fieldsOf(b) &&
		slices.Equal(a.Params, b.Params) &&
		slices.EqualFunc(a.Body, b.Body, SameStmt)
}

// lineEnd is above every interrupt line.
const lineEnd = 32

func isLine(n int) bool {
	return 0 <= n && n < lineEnd
}

func isLevel(n int) bool {
	return 0 <= n && n <= api.MaxPrio
}

// isPrio refuses 0, which is below every level: nothing would be interrupted.
func isPrio(n int) bool {
	return 1 <= n && n <= api.MaxPrio
}

func isSourceLine(n int) bool {
	return n >= 0
}

func isName(s string) bool {
	return lex.Kind(s) == api.TokWord
}

func isType(ty int) bool {
	return Width(ty) != 0
}

func isUn(op int) bool {
	return word.Name(op) != ""
}

// isBin reports whether an operator on two words may be in an expression: the
// signed ones may not, since the types of the operands decide on that.
func isBin(op int) bool {
	switch op {
	case api.BinAdd, api.BinSub, api.BinMul, api.BinDiv, api.BinRem,
		api.BinAnd, api.BinOr, api.BinXor, api.BinShl, api.BinShr,
		api.BinEq, api.BinNe, api.BinLt, api.BinLe, api.ExGt, api.ExGe:
		return true
	}
	return false
}

// all reports whether something holds for all elements.
func all[T any](l []T, holds func(T) bool) bool {
	for _, x := range l {
		if !holds(x) {
			return false
		}
	}
	return true
}
