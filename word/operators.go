package word

// The operators on two words: the numbers of api.Bin... 0 is skipped, so that
// the zero value of a number is no operator.
const (
	_ = iota
	binAdd
	binSub
	binMul
	binDiv
	binRem
	binDivS
	binRemS
	binAnd
	binOr
	binXor
	binShl
	binShr
	binSar
	binEq
	binNe
	binLt
	binLe
	binLtS
	binLeS
	binEnd
)

// The operators on one word: the numbers of api.Un..., 0 being skipped as above.
const (
	_ = iota
	unNeg
	unNot
	unZero
	unEnd
)

// The symbols of the operators on two words.
var signs = [binEnd]string{
	binAdd: "+", binSub: "-", binMul: "*",
	binDiv: "/", binRem: "%", binDivS: "s/", binRemS: "s%",
	binAnd: "&", binOr: "|", binXor: "^",
	binShl: "<<", binShr: ">>", binSar: "s>>",
	binEq: "==", binNe: "!=",
	binLt: "<", binLe: "<=", binLtS: "s<", binLeS: "s<=",
}

// The names of the operators on one word.
var names = [unEnd]string{unNeg: "neg", unNot: "not", unZero: "zero"}

// onTwo makes the operators on two words. A division expects a divisor other
// than 0. Go's own operators do what the document asks also at the edges: a
// quotient of -2^31 by -1 wraps to -2^31 with the remainder 0, and a count of
// 32 and above shifts every bit out.
func onTwo() [binEnd]func(a, b uint32) uint32 {
	return [binEnd]func(a, b uint32) uint32{
		binAdd:  func(a, b uint32) uint32 { return a + b },
		binSub:  func(a, b uint32) uint32 { return a - b },
		binMul:  func(a, b uint32) uint32 { return a * b },
		binDiv:  func(a, b uint32) uint32 { return a / b },
		binRem:  func(a, b uint32) uint32 { return a % b },
		binDivS: func(a, b uint32) uint32 { return uint32(int32(a) / int32(b)) },
		binRemS: func(a, b uint32) uint32 { return uint32(int32(a) % int32(b)) },
		binAnd:  func(a, b uint32) uint32 { return a & b },
		binOr:   func(a, b uint32) uint32 { return a | b },
		binXor:  func(a, b uint32) uint32 { return a ^ b },
		binShl:  func(a, b uint32) uint32 { return a << b },
		binShr:  func(a, b uint32) uint32 { return a >> b },
		binSar:  func(a, b uint32) uint32 { return uint32(int32(a) >> b) },
		binEq:   func(a, b uint32) uint32 { return truth(a == b) },
		binNe:   func(a, b uint32) uint32 { return truth(a != b) },
		binLt:   func(a, b uint32) uint32 { return truth(a < b) },
		binLe:   func(a, b uint32) uint32 { return truth(a <= b) },
		binLtS:  func(a, b uint32) uint32 { return truth(int32(a) < int32(b)) },
		binLeS:  func(a, b uint32) uint32 { return truth(int32(a) <= int32(b)) },
	}
}

// onOne makes the operators on one word.
func onOne() [unEnd]func(a uint32) uint32 {
	return [unEnd]func(a uint32) uint32{
		unNeg:  func(a uint32) uint32 { return -a },
		unNot:  func(a uint32) uint32 { return ^a },
		unZero: func(a uint32) uint32 { return truth(a == 0) },
	}
}

// truth returns 1 for what holds, as the comparisons answer it.
func truth(holds bool) uint32 {
	if holds {
		return 1
	}
	return 0
}

// isBin reports whether there is such an operator on two words.
func isBin(op int) bool {
	return binAdd <= op && op < binEnd
}

// isUn reports whether there is such an operator on one word.
func isUn(op int) bool {
	return unNeg <= op && op < unEnd
}

// divides reports whether an operator divides, so that 0 is no second operand.
func divides(op int) bool {
	return binDiv <= op && op <= binRemS
}
