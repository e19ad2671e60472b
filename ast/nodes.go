package ast

import (
	"iter"

	"lamplighter/api"
)

// node is what returns its children, which are nodes of the same type.
type node[N any] interface {
	children() iter.Seq[N]
}

// walk goes over nodes and all that is below them, each ahead of its children,
// and tells how deep each is nested; the depth of the first ones is given.
func walk[N node[N]](l iter.Seq[N], depth int) iter.Seq2[int, N] {
	return func(yield func(int, N) bool) {
		descend(l, depth, yield)
	}
}

// descend reports whether the walk goes on.
func descend[N node[N]](l iter.Seq[N], depth int, yield func(int, N) bool) bool {
	for n := range l {
		if !yield(depth, n) || !descend(n.children(), depth+1, yield) {
			return false
		}
	}
	return true
}

// expression is an expression, as a node.
type expression api.Expr

func (e expression) children() iter.Seq[expression] {
	return expressions(e.Args)
}

// statement is a statement, as a node.
type statement api.Stmt

// children are the statements in a statement, not its expressions.
func (s statement) children() iter.Seq[statement] {
	return statements(s.Then, s.Else)
}

// expressions are those of a statement, not those of the statements in it.
func (s statement) expressions() iter.Seq[expression] {
	return expressions(s.Index, s.Expr)
}

func expressions(lists ...[]api.Expr) iter.Seq[expression] {
	return each(func(e api.Expr) expression { return expression(e) }, lists)
}

func statements(lists ...[]api.Stmt) iter.Seq[statement] {
	return each(func(s api.Stmt) statement { return statement(s) }, lists)
}

// each goes over the elements of lists, as nodes.
func each[T, N any](asNode func(T) N, lists [][]T) iter.Seq[N] {
	return func(yield func(N) bool) {
		for _, l := range lists {
			for _, x := range l {
				if !yield(asNode(x)) {
					return
				}
			}
		}
	}
}

// bodies goes over the statements of all functions, without those in them.
func bodies(p api.Program) iter.Seq[statement] {
	var lists [][]api.Stmt
	for _, f := range p.Funcs {
		lists = append(lists, f.Body)
	}
	return statements(lists...)
}

// part is an expression or a statement.
type part interface {
	valid() bool
}

// partsOf goes over statements, the statements in them, and the expressions of
// all these, and tells how deep each is nested.
func partsOf(l iter.Seq[statement]) iter.Seq2[int, part] {
	return func(yield func(int, part) bool) {
		for depth, s := range walk(l, 1) {
			if !yield(depth, s) {
				return
			}
			for below, e := range walk(s.expressions(), depth+1) {
				if !yield(below, e) {
					return
				}
			}
		}
	}
}

// check returns ErrLong if there are too many parts, or they are nested too
// deep, and ErrArg if one is not valid.
func check[P part](parts iter.Seq2[int, P]) api.Errno {
	if tooMuch(parts) {
		return api.ErrLong
	}
	for _, p := range parts {
		if !p.valid() {
			return api.ErrArg
		}
	}
	return api.OK
}

// tooMuch leaves the parts as soon as it is certain: there may be far more.
func tooMuch[P part](parts iter.Seq2[int, P]) bool {
	n := 0
	for depth := range parts {
		n++
		if n > api.MaxSize || depth > api.MaxDeep {
			return true
		}
	}
	return false
}
