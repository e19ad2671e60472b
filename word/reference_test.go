package word_test

import (
	"math/big"

	"lamplighter/api"
)

// edges are words at which operators change what they do: powers of two and
// their neighbours, counts of shifts, and the ends of the numbers of 8, 16
// and 32 bits.
func edges() []uint32 {
	l := []uint32{
		0, 3, 5, 6, 7, 10, 31, 32, 33, 34, 63, 64, 65, 0xfe, 0xff, 0x101, 0xfffe, 0xffff, 0x10001,
		0x12345678, 0x55555555, 0x7ffffffe, 0x7fffffff, 0x80000001, 0xaaaaaaaa, 0xdeadbeef,
		0xffffff80, 0xffff8000, 0xfffffff9, 0xfffffffd, 0xfffffffe, 0xffffffff,
	}
	for bit := range 32 {
		l = append(l, 1<<bit)
	}
	return l
}

// spread are fewer words, for the laws of three words.
func spread() []uint32 {
	return []uint32{0, 1, 2, 31, 0xff, 0x12345678, 0x7ffffffe, 0x7fffffff, 0x80000000, 0x80000001, 0xdeadbeef, 0xfffffffe, 0xffffffff}
}

// two31 is 2^31, and two32 is 2^32.
func two31() *big.Int { return new(big.Int).Lsh(big.NewInt(1), 31) }
func two32() *big.Int { return new(big.Int).Lsh(big.NewInt(1), 32) }

// unsigned is a word as a number.
func unsigned(a uint32) *big.Int { return new(big.Int).SetUint64(uint64(a)) }

// signed is a word as a signed number: its highest bit counts -2^31.
func signed(a uint32) *big.Int {
	n := unsigned(a)
	if n.Cmp(two31()) >= 0 {
		n.Sub(n, two32())
	}
	return n
}

// modulo is a number modulo 2^32.
func modulo(n *big.Int) uint32 {
	return uint32(new(big.Int).Mod(n, two32()).Uint64())
}

// bitwise makes a word of what f says of both words' bits, one by one.
func bitwise(a, b uint32, f func(x, y uint) uint) uint32 {
	n := new(big.Int)
	for i := range 32 {
		n.SetBit(n, i, f(unsigned(a).Bit(i), unsigned(b).Bit(i)))
	}
	return modulo(n)
}

// shift makes a word whose bit i is bit from(i) of a, or fill beyond the word.
func shift(a uint32, fill uint, from func(i int64) int64) uint32 {
	n := new(big.Int)
	for i := range 32 {
		bit := fill
		if j := from(int64(i)); 0 <= j && j < 32 {
			bit = unsigned(a).Bit(int(j))
		}
		n.SetBit(n, i, bit)
	}
	return modulo(n)
}

// holds is 1 for what holds.
func holds(b bool) uint32 {
	if b {
		return 1
	}
	return 0
}

// expected is the result of an operator on two words, worked out with numbers
// of any size and bit by bit, and whether there is one.
func expected(op int, a, b uint32) (uint32, bool) {
	ua, ub, sa, sb := unsigned(a), unsigned(b), signed(a), signed(b)
	count := int64(b)
	n := new(big.Int)
	switch op {
	case api.BinAdd:
		return modulo(n.Add(ua, ub)), true
	case api.BinSub:
		return modulo(n.Sub(ua, ub)), true
	case api.BinMul:
		return modulo(n.Mul(ua, ub)), true
	case api.BinDiv, api.BinRem, api.BinDivS, api.BinRemS:
		if b == 0 {
			return 0, false
		}
		return divided(op, ua, ub, sa, sb), true
	case api.BinAnd:
		return bitwise(a, b, func(x, y uint) uint { return x * y }), true
	case api.BinOr:
		return bitwise(a, b, func(x, y uint) uint { return max(x, y) }), true
	case api.BinXor:
		return bitwise(a, b, func(x, y uint) uint { return (x + y) % 2 }), true
	case api.BinShl:
		return shift(a, 0, func(i int64) int64 { return i - count }), true
	case api.BinShr:
		return shift(a, 0, func(i int64) int64 { return i + count }), true
	case api.BinSar:
		return shift(a, ua.Bit(31), func(i int64) int64 { return i + count }), true
	}
	return compared(op, ua.Cmp(ub), sa.Cmp(sb)), true
}

// divided is a quotient or a remainder; big's Quo and Rem truncate towards 0.
func divided(op int, ua, ub, sa, sb *big.Int) uint32 {
	n := new(big.Int)
	switch op {
	case api.BinDiv:
		n.Quo(ua, ub)
	case api.BinRem:
		n.Rem(ua, ub)
	case api.BinDivS:
		n.Quo(sa, sb)
	case api.BinRemS:
		n.Rem(sa, sb)
	}
	return modulo(n)
}

// compared is a comparison, from how the numbers and the signed numbers compare.
func compared(op, u, s int) uint32 {
	switch op {
	case api.BinEq:
		return holds(u == 0)
	case api.BinNe:
		return holds(u != 0)
	case api.BinLt:
		return holds(u < 0)
	case api.BinLe:
		return holds(u <= 0)
	case api.BinLtS:
		return holds(s < 0)
	}
	return holds(s <= 0)
}
