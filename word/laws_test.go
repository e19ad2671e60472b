package word_test

import (
	"testing"

	"lamplighter/api"
	"lamplighter/word"
)

// do is the result of an operator that has one.
func do(t *testing.T, op int, a, b uint32) uint32 {
	t.Helper()
	w, e := word.Do(op, a, b)
	if e != api.OK {
		t.Fatalf("Do(%d, %#x, %#x): error %d", op, a, b, e)
	}
	return w
}

// size is how far a signed number is from 0.
func size(a uint32) int64 {
	return max(word.Signed(a), -word.Signed(a))
}

// TestP12Division: the quotient times the divisor, plus the remainder, is the
// dividend, and the remainder is smaller than the divisor.
func TestP12Division(t *testing.T) {
	for _, a := range edges() {
		for _, b := range edges() {
			if b == 0 {
				continue
			}
			q, r := do(t, api.BinDiv, a, b), do(t, api.BinRem, a, b)
			if uint64(q)*uint64(b)+uint64(r) != uint64(a) || r >= b {
				t.Errorf("%#x by %#x: %#x, remainder %#x", a, b, q, r)
			}
			q, r = do(t, api.BinDivS, a, b), do(t, api.BinRemS, a, b)
			if do(t, api.BinAdd, do(t, api.BinMul, q, b), r) != a || size(r) >= size(b) {
				t.Errorf("signed: %#x by %#x: %#x, remainder %#x", a, b, q, r)
			}
			if r != 0 && (word.Signed(r) < 0) != (word.Signed(a) < 0) {
				t.Errorf("signed: %#x by %#x: the remainder %#x has the wrong sign", a, b, r)
			}
		}
	}
}

// TestP12Minus: - undoes +, from either side.
func TestP12Minus(t *testing.T) {
	for _, a := range edges() {
		for _, b := range edges() {
			sum := do(t, api.BinAdd, a, b)
			if do(t, api.BinSub, sum, b) != a || do(t, api.BinSub, sum, a) != b {
				t.Errorf("%#x + %#x = %#x is not undone", a, b, sum)
			}
			if do(t, api.BinAdd, do(t, api.BinSub, a, b), b) != a {
				t.Errorf("%#x - %#x is not undone", a, b)
			}
		}
	}
}

// orders are the comparisons of each order: less, and less or equal.
func orders() [][2]int {
	return [][2]int{{api.BinLt, api.BinLe}, {api.BinLtS, api.BinLeS}}
}

// TestP12Orders: of two words exactly one is less, or they are equal; less or
// equal is what it says, total and antisymmetric.
func TestP12Orders(t *testing.T) {
	for _, o := range orders() {
		for _, a := range edges() {
			for _, b := range edges() {
				less, more := do(t, o[0], a, b), do(t, o[0], b, a)
				same, other := do(t, api.BinEq, a, b), do(t, api.BinNe, a, b)
				if less+more+same != 1 || same+other != 1 {
					t.Errorf("%v: %#x, %#x: %d %d %d %d", o, a, b, less, more, same, other)
				}
				atMost, atLeast := do(t, o[1], a, b), do(t, o[1], b, a)
				if atMost != less+same || atLeast != more+same || atMost+atLeast == 0 {
					t.Errorf("%v: %#x, %#x: %d %d", o, a, b, atMost, atLeast)
				}
				if atMost == 1 && atLeast == 1 && a != b {
					t.Errorf("%v: %#x and %#x are each at most the other", o, a, b)
				}
			}
		}
	}
}

// TestP12Transitive: what is at most b is at most what b is at most.
func TestP12Transitive(t *testing.T) {
	for _, o := range orders() {
		for _, op := range o {
			for _, a := range spread() {
				for _, b := range spread() {
					for _, c := range spread() {
						if do(t, op, a, b) == 1 && do(t, op, b, c) == 1 && do(t, op, a, c) != 1 {
							t.Errorf("operator %d: %#x, %#x, %#x", op, a, b, c)
						}
					}
				}
			}
		}
	}
}

// TestP12Directions: the unsigned order begins at 0, the signed one at -2^31.
func TestP12Directions(t *testing.T) {
	for _, a := range edges() {
		if do(t, api.BinLe, 0, a) != 1 || do(t, api.BinLe, a, 0xffffffff) != 1 {
			t.Errorf("unsigned: %#x is beyond the ends", a)
		}
		if do(t, api.BinLeS, 0x80000000, a) != 1 || do(t, api.BinLeS, a, 0x7fffffff) != 1 {
			t.Errorf("signed: %#x is beyond the ends", a)
		}
	}
}
