package code_test

import (
	"math"
	"slices"
	"strings"
	"testing"

	"lamplighter/api"
	"lamplighter/code"
)

// TestP31CheckValid: every Op is valid with every number that its operands may
// be, up to the edges.
func TestP31CheckValid(t *testing.T) {
	for _, x := range table() {
		for _, i := range x.valid() {
			if e := code.Check(i); e != api.OK {
				t.Errorf("%s: Check(%v): error %d", x.name, i, e)
			}
		}
	}
	for _, i := range []api.Ins{
		{Op: api.OpPush, A: math.MaxUint32}, {Op: api.OpLdX, A: 1 << 20, B: 1}, {Op: api.OpStX, B: 1 << 20, C: 8},
		{Op: api.OpBin, A: api.BinLeS}, {Op: api.OpUn, A: api.UnZero}, {Op: api.OpEn, A: 31}, {Op: api.OpLvl, A: api.MaxPrio},
	} {
		if e := code.Check(i); e != api.OK {
			t.Errorf("Check(%v): error %d", i, e)
		}
	}
}

// TestP31CheckWrong: an Op that does not exist, a number that an operand may
// not be, or one other than 0 that the Op does not name.
func TestP31CheckWrong(t *testing.T) {
	for _, i := range append(invalid(), []api.Ins{
		{}, {Op: 25}, {Op: api.OpHalt, A: 1}, {Op: api.OpPt, C: 8}, {Op: api.OpPush, A: 1 << 32}, {Op: api.OpPush, B: 8},
		{Op: api.OpLdX, A: 4}, {Op: api.OpStX, A: 4, C: 8}, {Op: api.OpStX, A: 4, B: 10}, {Op: api.OpSt, A: 4}, {Op: api.OpStL, A: 4},
		{Op: api.OpBin}, {Op: api.OpBin, A: api.ExGt}, {Op: api.OpUn}, {Op: api.OpCut}, {Op: api.OpDis, A: 32}, {Op: api.OpLvl, A: 16},
	}...) {
		if e := code.Check(i); e != api.ErrArg {
			t.Errorf("Check(%v): error %d, want ErrArg", i, e)
		}
	}
}

// TestP31Effect: what each valid instruction pops and pushes, whatever the
// functions pop, as long as it calls none.
func TestP31Effect(t *testing.T) {
	for _, x := range table() {
		if x.op == api.OpCall {
			continue
		}
		for _, i := range x.valid() {
			for _, params := range [][]int{nil, {7}, {8, 8, 8}} {
				if takes, gives, ok := code.Effect(i, params); takes != x.pops || gives != x.adds || !ok {
					t.Errorf("Effect(%v, %v) = %d, %d, %v; want %d, %d", i, params, takes, gives, ok, x.pops, x.adds)
				}
			}
		}
	}
}

// TestP31EffectCall: a call pops what its function says, from the first one to
// the last, and pushes 1; a function beyond the last does not exist.
func TestP31EffectCall(t *testing.T) {
	params := []int{0, 2, 8, 1, 64}
	for f, want := range params {
		if takes, gives, ok := code.Effect(api.Ins{Op: api.OpCall, A: f}, params); takes != want || gives != 1 || !ok {
			t.Errorf("call %d: %d, %d, %v; want %d, 1", f, takes, gives, ok, want)
		}
	}
	for _, x := range []struct {
		f      int
		params []int
	}{{5, params}, {6, params}, {64, params}, {1 << 20, params}, {0, nil}, {0, []int{}}, {1, []int{3}}, {2, []int{4, 5, 6}[:2]}} {
		if takes, gives, ok := code.Effect(api.Ins{Op: api.OpCall, A: x.f}, x.params); takes != 0 || gives != 0 || ok {
			t.Errorf("call %d of %v: %d, %d, %v; want nothing", x.f, x.params, takes, gives, ok)
		}
	}
	if !slices.Equal(params, []int{0, 2, 8, 1, 64}) {
		t.Errorf("the params became %v", params)
	}
}

// TestP31Jumps: only jmp and jz jump, to their A; after halt, jmp and ret the
// next instruction does not follow.
func TestP31Jumps(t *testing.T) {
	for _, x := range table() {
		for _, i := range x.valid() {
			want := 0
			if x.jumps {
				want = i.A
			}
			if to, jumps, goesOn := code.Jumps(i); to != want || jumps != x.jumps || goesOn != x.next {
				t.Errorf("%s: Jumps(%v) = %d, %v, %v; want %d, %v, %v", x.name, i, to, jumps, goesOn, want, x.jumps, x.next)
			}
		}
	}
}

// TestP31Nothing: what is not valid has no effect, does not jump, and is not
// followed.
func TestP31Nothing(t *testing.T) {
	for _, i := range invalid() {
		for _, params := range [][]int{nil, {2, 2, 2, 2, 2, 2, 2, 2, 2}} {
			if takes, gives, ok := code.Effect(i, params); takes != 0 || gives != 0 || ok {
				t.Errorf("Effect(%v, %v) = %d, %d, %v; want nothing", i, params, takes, gives, ok)
			}
		}
		if to, jumps, goesOn := code.Jumps(i); to != 0 || jumps || goesOn {
			t.Errorf("Jumps(%v) = %d, %v, %v; want nothing", i, to, jumps, goesOn)
		}
	}
}

// TestP31Examples tells the chapter's examples of effects.
func TestP31Examples(t *testing.T) {
	if takes, gives, ok := code.Effect(api.Ins{Op: api.OpStX, A: 4, B: 10, C: 8}, nil); takes != 2 || gives != 0 || !ok {
		t.Errorf("stx: %d, %d, %v", takes, gives, ok)
	}
	if takes, gives, ok := code.Effect(api.Ins{Op: api.OpCall, A: 1}, []int{0, 2}); takes != 2 || gives != 1 || !ok {
		t.Errorf("call 1: %d, %d, %v", takes, gives, ok)
	}
}

// TestP32Text: the texts of some instructions of each kind, written out.
func TestP32Text(t *testing.T) {
	for _, x := range []struct {
		i    api.Ins
		want string
	}{
		{api.Ins{Op: 7, A: 4, B: 10, C: 8}, "stx 4 10 8"},
		{api.Ins{Op: 12, A: 6}, "bin s/"},
		{api.Ins{Op: 16, A: 9}, "jz 9"},
		{api.Ins{Op: 1}, "halt"},
		{api.Ins{Op: 2, A: math.MaxUint32}, "push 4294967295"},
		{api.Ins{Op: 2}, "push 0"},
		{api.Ins{Op: 5, A: 1 << 20, B: 32}, "st 1048576 32"},
		{api.Ins{Op: 6, B: 1}, "ldx 0 1"},
		{api.Ins{Op: 7, A: 1 << 20, B: 1 << 20, C: 16}, "stx 1048576 1048576 16"},
		{api.Ins{Op: 12, A: 1}, "bin +"},
		{api.Ins{Op: 12, A: 19}, "bin s<="},
		{api.Ins{Op: 13, A: 1}, "un neg"},
		{api.Ins{Op: 13, A: 3}, "un zero"},
		{api.Ins{Op: 14, A: 8}, "cut 8"},
		{api.Ins{Op: 20, A: 31}, "dis 31"},
		{api.Ins{Op: 21, A: 15}, "lvl 15"},
		{api.Ins{Op: 22}, "pt"},
		{api.Ins{Op: 24, A: 63}, "end 63"},
	} {
		if got := code.Text(x.i); got != x.want {
			t.Errorf("Text(%v) = %q, want %q", x.i, got, x.want)
		}
		if got, e := code.Parse(x.want); got != x.i || e != api.OK {
			t.Errorf("Parse(%q) = %v, %d; want %v", x.want, got, e, x.i)
		}
	}
}

// TestP32TextEverywhere compares the texts of all Ops with the table.
func TestP32TextEverywhere(t *testing.T) {
	for _, x := range table() {
		for _, i := range x.valid() {
			if got, want := code.Text(i), x.text(i); got != want {
				t.Errorf("Text(%v) = %q, want %q", i, got, want)
			}
		}
	}
	for _, i := range invalid() {
		if got := code.Text(i); got != "" {
			t.Errorf("Text(%v) = %q, want none", i, got)
		}
	}
}

// wrongTexts is texts of no instruction.
func wrongTexts() []string {
	return []string{
		"", " ", "  ", "\t", "\n", "\x00", "\xff", "0", "5", "stop", "nop", "halt 0", "halt 1", "halts", "hal", "Halt", "HALT", "haltpt", "halt pt",
		" halt", "halt ", " halt ", "\thalt", "halt\n", "halt\x00", "\ufeffhalt", "halt\u00a0",
		"push", "push ", "push 05", "push 00", "push +5", "push -0", "push -1", "push 5 ", " push 5", "push  5", "push\t5", "push\u00a05", "push\n5",
		"push 0x5", "push 5.0", "push 5e0", "push 1_0", "push 1,0", "push ٣", "push five", "push 4294967296", "push 18446744073709551617",
		"push 5 5", "push 5 0", "push 5 0 0", "push 0 0 0 0", "push5", "push 5;",
		"ld", "ld 1048577", "ld 4294967295", "ld -1", "ld 01", "ld 4 8", "st 4", "st 4 7", "st 4 0", "st 4 64", "st 4 8 8", "st 8 04", "st 04 8",
		"ldx 4", "ldx 4 0", "ldx 4 1048577", "ldx 1048577 4", "ldx 4 10 8", "stx 4 10", "stx 4 0 8", "stx 4 10 9", "stx 4 10 8 0", "stx 4  10 8", "stx 4 10  8", "stx 4 10 08",
		"bin", "bin 1", "bin 6", "bin s", "bin s/ ", "bin  s/", "bin s /", "bin s+", "bin =", "bin >", "bin >=", "bin s>", "bin s>=", "bin s&", "bin neg", "bin + 0", "bin ++", "bin S/", "bin s/ s/",
		"un", "un 1", "un neg ", "un neg 0", "un -", "un !", "un NEG", "un +", "un negate", "un ", "cut", "cut 0", "cut 1", "cut 24", "cut 8 8", "cut 08",
		"jmp", "jmp 1048577", "jz -9", "jz +9", "jz 09", "jz 9 9", "call", "call f", "call 1 2", "call 1048577", "ret 0", "ret 1",
		"en", "en 32", "en -1", "en 01", "dis 32", "dis 100", "lvl", "lvl 16", "lvl 00", "lvl -1", "pt 0", "beg", "beg 1048577", "end", "end -1", "end 0 0",
		strings.Repeat("halt ", 40), "push " + strings.Repeat("0", 40) + "5", strings.Repeat(" ", 1<<20) + "halt", strings.Repeat("a ", 1<<20),
	}
}

// TestP32ParseWrong: nothing but the text of an instruction is one.
func TestP32ParseWrong(t *testing.T) {
	for _, s := range wrongTexts() {
		if got, e := code.Parse(s); got != (api.Ins{}) || e != api.ErrText {
			t.Errorf("Parse(%.40q) = %v, %d; want ErrText", s, got, e)
		}
	}
}

// TestP32Operators: each symbol of word belongs to bin alone, each name to un.
func TestP32Operators(t *testing.T) {
	for _, name := range []string{"bin", "un", "cut", "push"} {
		for op, sign := range slices.Concat(signs(), names()) {
			want := api.Ins{}
			if name == "bin" && op < 19 {
				want = api.Ins{Op: api.OpBin, A: op + 1}
			}
			if name == "un" && op >= 19 {
				want = api.Ins{Op: api.OpUn, A: op - 18}
			}
			got, e := code.Parse(name + " " + sign)
			if got != want || (e == api.OK) != (want.Op != 0) || e != api.OK && e != api.ErrText {
				t.Errorf("Parse(%s %s) = %v, %d; want %v", name, sign, got, e, want)
			}
		}
	}
}

// TestP32Names: the names of all Ops, from halt on, in new memory.
func TestP32Names(t *testing.T) {
	want := []string{
		"halt", "push", "pop", "ld", "st", "ldx", "stx", "ldl", "stl", "in", "out", "bin",
		"un", "cut", "jmp", "jz", "call", "ret", "en", "dis", "lvl", "pt", "beg", "end",
	}
	first := code.Names()
	if !slices.Equal(first, want) {
		t.Errorf("Names() = %v", first)
	}
	second := code.Names()
	first = first[:cap(first)]
	for i := range first {
		first[i] = "x"
	}
	if !slices.Equal(second, want) || !slices.Equal(code.Names(), want) {
		t.Error("the names share memory")
	}
}
