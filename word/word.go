// Package word is arithmetic on words of 32 bits, the values of the machine.
package word

import (
	"lamplighter/api"
)

// Do applies an operator on two words. It returns ErrArg if there is no such
// operator, and ErrZero for a division by 0.
func Do(op int, a, b uint32) (uint32, api.Errno) {
	if !isBin(op) {
		return 0, api.ErrArg
	}
	if divides(op) && b == 0 {
		return 0, api.ErrZero
	}
	operators := onTwo()
	return operators[op](a, b), api.OK
}

// One applies an operator on one word. It returns ErrArg if there is no such
// operator.
func One(op int, a uint32) (uint32, api.Errno) {
	if !isUn(op) {
		return 0, api.ErrArg
	}
	operators := onOne()
	return operators[op](a), api.OK
}

// Cut keeps the low 8, 16 or 32 bits. It returns ErrArg for another width.
func Cut(a uint32, width int) (uint32, api.Errno) {
	switch width {
	case 8:
		return uint32(uint8(a)), api.OK
	case 16:
		return uint32(uint16(a)), api.OK
	case 32:
		return a, api.OK
	}
	return 0, api.ErrArg
}

// Signed returns a word as a signed number.
func Signed(a uint32) int64 {
	return int64(int32(a))
}

// Sign returns the symbol of an operator on two words, empty if there is none.
func Sign(op int) string {
	if !isBin(op) {
		return ""
	}
	return signs[op]
}

// Name returns the name of an operator on one word, empty if there is none.
func Name(op int) string {
	if !isUn(op) {
		return ""
	}
	return names[op]
}

// Compares reports whether an operator on two words is a comparison.
func Compares(op int) bool {
	return binEq <= op && op <= binLeS
}
