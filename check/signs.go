package check

import (
	"slices"

	"lamplighter/api"
)

// signs decides on the signs of valid expressions, by what the names in them
// refer to.
type signs struct {
	tables api.Tables
	locals []api.Param
}

func (s signs) signed(e api.Expr) bool {
	switch e.Kind {
	case api.ExVar:
		return s.typeOf(e.Name) == api.TyI32
	case api.ExIndex:
		return s.globalType(e.Name) == api.TyI32
	case api.ExCast:
		return e.Type == api.TyI32
	case api.ExUn:
		return e.Op != api.UnZero && s.signed(e.Args[0])
	case api.ExBin:
		return s.signedResult(e)
	}
	return false
}

// signedResult is that of an operator on two words. A comparison is never
// signed, whatever it compares.
func (s signs) signedResult(e api.Expr) bool {
	switch e.Op {
	case api.BinAdd, api.BinSub, api.BinMul, api.BinDiv, api.BinRem, api.BinAnd, api.BinOr, api.BinXor:
		return slices.ContainsFunc(e.Args, s.signed)
	case api.BinShl, api.BinShr:
		return s.signed(e.Args[0])
	}
	return false
}

// goes reports whether an expression is an operator that is computed signed.
// A shift is as its left operand: the right one only counts bits.
func (s signs) goes(e api.Expr) bool {
	if e.Kind != api.ExBin {
		return false
	}
	switch {
	case e.Op == api.BinDiv, e.Op == api.BinRem, e.Op >= api.BinEq:
		return slices.ContainsFunc(e.Args, s.signed)
	case e.Op == api.BinShr:
		return s.signed(e.Args[0])
	}
	return false
}

// typeOf is the type of what a name refers to; 0 if that has none.
func (s signs) typeOf(name string) int {
	for _, l := range slices.Backward(s.locals) { // the last one with a name counts
		if l.Name == name {
			return l.Type
		}
	}
	return s.globalType(name)
}

func (s signs) globalType(name string) int {
	c, _ := global(s.tables, name)
	return c.Type
}

// global is the first global with a name, and whether there is one.
func global(t api.Tables, name string) (api.Cells, bool) {
	i, is := find(t.Cells, func(c api.Cells) bool { return c.Name == name })
	if !is {
		return api.Cells{}, false
	}
	return t.Cells[i], true
}

// find is the index of the first element that is meant, and whether there is
// one.
func find[T any](l []T, meant func(T) bool) (int, bool) {
	i := slices.IndexFunc(l, meant)
	return max(i, 0), i >= 0
}
