package show

import (
	"math"
	"strconv"

	"lamplighter/api"
	"lamplighter/parse"
)

// The symbols of the operators on two operands.
var signs = [...]string{
	api.BinAdd: "+", api.BinSub: "-", api.BinMul: "*", api.BinDiv: "/", api.BinRem: "%",
	api.BinAnd: "&", api.BinOr: "|", api.BinXor: "^", api.BinShl: "<<", api.BinShr: ">>",
	api.BinEq: "==", api.BinNe: "!=", api.BinLt: "<", api.BinLe: "<=", api.ExGt: ">", api.ExGe: ">=",
}

// The symbols of the operators on one operand.
var unSigns = [...]string{api.UnNeg: "-", api.UnNot: "~", api.UnZero: "!"}

// The words of the types.
var types = [...]string{api.TyU8: "u8", api.TyU16: "u16", api.TyU32: "u32", api.TyI32: "i32"}

// strongest is the level of the operators on one operand, which are stronger
// than all that have a level.
const strongest = math.MaxInt

func (w *writer) expr(e api.Expr) {
	switch e.Kind {
	case api.ExNum:
		w.word(e.N)
	case api.ExVar:
		w.put(e.Name)
	case api.ExIndex:
		w.exprs(e.Name+"[", e.Args, "]")
	case api.ExCall:
		w.exprs(e.Name+"(", e.Args, ")")
	case api.ExCast:
		w.exprs(Type(e.Type)+"(", e.Args, ")")
	case api.ExUn:
		w.put(unSigns[e.Op])
		w.operand(e.Args[0], strongest, false)
	case api.ExBin:
		level := parse.Level(e.Op)
		w.operand(e.Args[0], level, false)
		w.put(" ", Sign(e.Op), " ")
		w.operand(e.Args[1], level, true)
	}
}

// exprs writes expressions with what is around all of them.
func (w *writer) exprs(open string, l []api.Expr, shut string) {
	w.put(open)
	list(w, l, w.expr)
	w.put(shut)
}

// operand writes an operand of an operator of some level, which is on its
// right or not.
func (w *writer) operand(e api.Expr, around int, right bool) {
	if enclosed(parse.Level(e.Op), around, e.Kind == api.ExBin, right) {
		w.exprs("(", []api.Expr{e}, ")")
		return
	}
	w.expr(e)
}

// enclosed reports whether an operand needs parentheses, by its level and by
// that of the operator around it. Only what has two operands can be taken
// apart, and of equal operators the left one is applied first.
func enclosed(level, around int, binary, right bool) bool {
	return binary && (level < around || right && level == around)
}

func (w *writer) word(n uint32) {
	w.put(strconv.FormatUint(uint64(n), 10))
}
