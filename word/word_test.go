package word_test

import (
	"math"
	"testing"

	"lamplighter/api"
	"lamplighter/word"
)

// TestP11Do tells results of each operator as the chapter's table says them.
func TestP11Do(t *testing.T) {
	const least, minus1 = 0x80000000, 0xffffffff
	for _, x := range []struct {
		op         int
		a, b, want uint32
	}{
		{api.BinAdd, 2, 3, 5},
		{api.BinAdd, minus1, 1, 0},
		{api.BinAdd, least, least, 0},
		{api.BinSub, 3, 2, 1},
		{api.BinSub, 0, 1, minus1},
		{api.BinMul, 6, 7, 42},
		{api.BinMul, 0x10000, 0x10000, 0},
		{api.BinMul, minus1, minus1, 1},
		{api.BinDiv, 7, 2, 3},
		{api.BinDiv, minus1, 2, 0x7fffffff},
		{api.BinDiv, least, minus1, 0},
		{api.BinRem, 7, 2, 1},
		{api.BinRem, minus1, 10, 5},
		{api.BinRem, least, minus1, least},
		{api.BinDivS, 7, 2, 3},
		{api.BinDivS, 0xfffffff9, 2, 0xfffffffd},
		{api.BinDivS, 7, 0xfffffffe, 0xfffffffd},
		{api.BinDivS, 0xfffffff9, 0xfffffffe, 3},
		{api.BinDivS, least, minus1, least},
		{api.BinDivS, least, 1, least},
		{api.BinDivS, minus1, least, 0},
		{api.BinRemS, 7, 2, 1},
		{api.BinRemS, 0xfffffff9, 2, minus1},
		{api.BinRemS, 7, 0xfffffffe, 1},
		{api.BinRemS, 0xfffffff9, 0xfffffffe, minus1},
		{api.BinRemS, least, minus1, 0},
		{api.BinRemS, 0x7fffffff, least, 0x7fffffff},
		{api.BinAnd, 0b1100, 0b1010, 0b1000},
		{api.BinOr, 0b1100, 0b1010, 0b1110},
		{api.BinXor, 0b1100, 0b1010, 0b0110},
		{api.BinShl, 3, 4, 48},
		{api.BinShl, 1, 31, least},
		{api.BinShl, 1, 32, 0},
		{api.BinShl, minus1, 33, 0},
		{api.BinShl, minus1, minus1, 0},
		{api.BinShr, 48, 4, 3},
		{api.BinShr, least, 31, 1},
		{api.BinShr, minus1, 32, 0},
		{api.BinShr, minus1, 33, 0},
		{api.BinShr, minus1, minus1, 0},
		{api.BinSar, 48, 4, 3},
		{api.BinSar, 0xfffffff0, 2, 0xfffffffc},
		{api.BinSar, least, 31, minus1},
		{api.BinSar, least, 32, minus1},
		{api.BinSar, least, 0x21, minus1},
		{api.BinSar, least, minus1, minus1},
		{api.BinSar, 0x7fffffff, 31, 0},
		{api.BinSar, 0x7fffffff, 32, 0},
		{api.BinSar, 0x7fffffff, least, 0},
		{api.BinEq, 5, 5, 1},
		{api.BinEq, 5, 6, 0},
		{api.BinNe, 5, 5, 0},
		{api.BinNe, 5, 6, 1},
		{api.BinLt, 5, 6, 1},
		{api.BinLt, 5, 5, 0},
		{api.BinLt, minus1, 0, 0},
		{api.BinLe, 5, 5, 1},
		{api.BinLe, 6, 5, 0},
		{api.BinLe, 0x7fffffff, least, 1},
		{api.BinLtS, minus1, 0, 1},
		{api.BinLtS, 5, 5, 0},
		{api.BinLtS, 0x7fffffff, least, 0},
		{api.BinLeS, 5, 5, 1},
		{api.BinLeS, least, 0x7fffffff, 1},
		{api.BinLeS, 0, minus1, 0},
	} {
		if got, e := word.Do(x.op, x.a, x.b); got != x.want || e != api.OK {
			t.Errorf("Do(%d, %#x, %#x) = %#x, %d; want %#x", x.op, x.a, x.b, got, e, x.want)
		}
	}
}

// TestP11DoEverywhere compares all operators with the reference at all edges.
func TestP11DoEverywhere(t *testing.T) {
	for op := api.BinAdd; op <= api.BinLeS; op++ {
		for _, a := range edges() {
			for _, b := range edges() {
				want, ok := expected(op, a, b)
				err := api.OK
				if !ok {
					err = api.ErrZero
				}
				if got, e := word.Do(op, a, b); got != want || e != err {
					t.Fatalf("Do(%d, %#x, %#x) = %#x, %d; want %#x, %d", op, a, b, got, e, want, err)
				}
			}
		}
	}
}

// TestP11DoByZero: 4 to 7 are the ones that 0 stops, whatever is divided.
func TestP11DoByZero(t *testing.T) {
	for op := api.BinAdd; op <= api.BinLeS; op++ {
		want := api.OK
		if 4 <= op && op <= 7 {
			want = api.ErrZero
		}
		for _, a := range edges() {
			got, e := word.Do(op, a, 0)
			if e != want {
				t.Errorf("Do(%d, %#x, 0): error %d, want %d", op, a, e, want)
			}
			if e != api.OK && got != 0 {
				t.Errorf("Do(%d, %#x, 0) = %#x beside an error", op, a, got)
			}
		}
	}
}

// absent are numbers that are no operators, for operators from 1 to last. The
// last ones are operators if they are cut to 32 bits.
func absent(last int) []int {
	return []int{math.MinInt, -1 << 32, -256, -last, -2, -1, 0, last + 1, last + 2, 255, 257, math.MaxInt32, math.MaxInt, 1<<32 + 1, 1<<32 + last}
}

// TestP11NoOperator: what is no operator is told first, ahead of the 0.
func TestP11NoOperator(t *testing.T) {
	for _, op := range append(absent(19), api.ExGt, api.ExGe) {
		for _, b := range []uint32{0, 1, 0xffffffff} {
			if got, e := word.Do(op, 7, b); got != 0 || e != api.ErrArg {
				t.Errorf("Do(%d, 7, %d) = %d, %d; want 0, ErrArg", op, b, got, e)
			}
		}
		if s := word.Sign(op); s != "" {
			t.Errorf("Sign(%d) = %q, want none", op, s)
		}
		if word.Compares(op) {
			t.Errorf("Compares(%d)", op)
		}
	}
	for _, op := range append(absent(3), api.BinDiv) {
		if got, e := word.One(op, 7); got != 0 || e != api.ErrArg {
			t.Errorf("One(%d, 7) = %d, %d; want 0, ErrArg", op, got, e)
		}
		if s := word.Name(op); s != "" {
			t.Errorf("Name(%d) = %q, want none", op, s)
		}
	}
}

// TestP11One tells results of the operators on one word.
func TestP11One(t *testing.T) {
	for _, x := range []struct {
		op      int
		a, want uint32
	}{
		{api.UnNeg, 0, 0},
		{api.UnNeg, 1, 0xffffffff},
		{api.UnNeg, 0xffffffff, 1},
		{api.UnNeg, 0x80000000, 0x80000000},
		{api.UnNot, 0, 0xffffffff},
		{api.UnNot, 0xffffffff, 0},
		{api.UnNot, 0x0f0f0f0f, 0xf0f0f0f0},
		{api.UnZero, 0, 1},
		{api.UnZero, 1, 0},
		{api.UnZero, 0x80000000, 0},
		{api.UnZero, 0xffffffff, 0},
	} {
		if got, e := word.One(x.op, x.a); got != x.want || e != api.OK {
			t.Errorf("One(%d, %#x) = %#x, %d; want %#x", x.op, x.a, got, e, x.want)
		}
	}
	for _, a := range edges() {
		if got, _ := word.One(api.UnNeg, a); got+a != 0 {
			t.Errorf("neg %#x = %#x", a, got)
		}
		if got, _ := word.One(api.UnNot, a); got != math.MaxUint32-a {
			t.Errorf("not %#x = %#x", a, got)
		}
		if got, _ := word.One(api.UnZero, a); got != holds(a == 0) {
			t.Errorf("zero %#x = %#x", a, got)
		}
	}
}

// TestP11Cut: the low bits are kept, whatever the others and the highest of
// those kept are; no other width exists.
func TestP11Cut(t *testing.T) {
	for _, x := range []struct {
		a     uint32
		width int
		want  uint32
	}{
		{0x1ff, 8, 0xff}, {0xffffff00, 8, 0}, {0x12345680, 8, 0x80},
		{0x1ffff, 16, 0xffff}, {0xffff0000, 16, 0}, {0x12348000, 16, 0x8000},
		{0xffffffff, 32, 0xffffffff}, {0x80000000, 32, 0x80000000}, {0, 32, 0},
	} {
		if got, e := word.Cut(x.a, x.width); got != x.want || e != api.OK {
			t.Errorf("Cut(%#x, %d) = %#x, %d; want %#x", x.a, x.width, got, e, x.want)
		}
	}
	for _, a := range edges() {
		for _, width := range []int{8, 16, 32} {
			want := uint32(uint64(a) % (1 << width))
			if got, e := word.Cut(a, width); got != want || e != api.OK {
				t.Errorf("Cut(%#x, %d) = %#x, %d; want %#x", a, width, got, e, want)
			}
		}
	}
	wrong := []int{math.MinInt, -32, -16, -8, -1, 0, 1, 7, 9, 15, 17, 24, 31, 33, 64, 256 + 8, 1<<32 + 8, 1<<32 + 16, 1<<32 + 32, math.MaxInt}
	for _, width := range wrong {
		if got, e := word.Cut(0xffffffff, width); got != 0 || e != api.ErrArg {
			t.Errorf("Cut(ffffffff, %d) = %#x, %d; want 0, ErrArg", width, got, e)
		}
	}
}

// TestP11Signed: the highest bit counts -2^31.
func TestP11Signed(t *testing.T) {
	for _, x := range []struct {
		a    uint32
		want int64
	}{
		{0, 0}, {1, 1}, {0x7fffffff, 2147483647},
		{0x80000000, -2147483648}, {0x80000001, -2147483647}, {0xffffffff, -1},
	} {
		if got := word.Signed(x.a); got != x.want {
			t.Errorf("Signed(%#x) = %d, want %d", x.a, got, x.want)
		}
	}
	for _, a := range edges() {
		if got := word.Signed(a); got != signed(a).Int64() {
			t.Errorf("Signed(%#x) = %d", a, got)
		}
	}
}

// TestP11Texts: each operator has the symbol, or the name, of the chapter.
func TestP11Texts(t *testing.T) {
	signs := []string{"+", "-", "*", "/", "%", "s/", "s%", "&", "|", "^", "<<", ">>", "s>>", "==", "!=", "<", "<=", "s<", "s<="}
	for i, want := range signs {
		if got := word.Sign(i + 1); got != want {
			t.Errorf("Sign(%d) = %q, want %q", i+1, got, want)
		}
	}
	for i, want := range []string{"neg", "not", "zero"} {
		if got := word.Name(i + 1); got != want {
			t.Errorf("Name(%d) = %q, want %q", i+1, got, want)
		}
	}
}

// TestP11Compares: 14 to 19 compare, no other number does.
func TestP11Compares(t *testing.T) {
	for op := -30; op <= 60; op++ {
		if got, want := word.Compares(op), 14 <= op && op <= 19; got != want {
			t.Errorf("Compares(%d) = %v", op, got)
		}
	}
}
