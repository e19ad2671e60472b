package image_test

import (
	"math"
	"slices"
	"testing"

	"lamplighter/api"
	"lamplighter/code"
)

// program is code by its texts.
func program(t testing.TB, texts ...string) []api.Ins {
	t.Helper()
	var l []api.Ins
	for _, s := range texts {
		i, e := code.Parse(s)
		if e != api.OK {
			t.Fatalf("%q is no instruction", s)
		}
		l = append(l, i)
	}
	return l
}

// smallest is the image of the chapter's examples.
func smallest() api.Image {
	return api.Image{Code: []api.Ins{{Op: api.OpPt}, {Op: api.OpHalt}}, Funcs: []api.Func{{}}, Stack: 10}
}

// firmware is an image that has something of everything: main is function 1,
// which calls 3 and 0; 2 serves line 4 and 31, and calls 0; 3 calls 0 twice;
// nothing calls 4.
func firmware(t testing.TB) api.Image {
	return api.Image{
		Code: program(t,
			"ldl 0", "push 300", "bin +", "ret", // 0
			"lvl 3", "en 4", "push 7", "call 3", "jz 13", "beg 1", "ld 5", "st 5 16", "end 1", "push 1", "call 0", "out 1", "jmp 4", "halt", // 4: 1
			"in 0", "call 0", "stx 2 3 8", "push 0", "ret", // 18: 2
			"ldl 0", "call 0", "stl 2 32", "ldl 2", "call 0", "ret", // 23: 3
			"jmp 29", // 29: 4
		),
		Funcs: []api.Func{{Entry: 0, Params: 1, Locals: 1}, {Entry: 4, Locals: 2}, {Entry: 18}, {Entry: 23, Params: 1, Locals: 3}, {Entry: 29, Params: 64, Locals: 64}},
		Vecs:  []api.Vec{{Line: 4, Prio: 15, Func: 2}, {Line: 31, Prio: 1, Func: 2}},
		Main:  1,
		Init:  []uint32{0, 127, 128, 16383, 16384, math.MaxUint32},
		Ports: []api.Port{{Read: true}, {Write: true}, {Read: true, Write: true}, {}},
		Stack: 300,
		Atoms: [][]int{{}, {5}, {0, 1, 2, 4, 5}},
	}
}

// valids are images that are valid, up to the edges.
func valids(t testing.TB) []api.Image {
	l := []api.Image{smallest(), firmware(t), widest(), chain(64, false), chain(64, true), chain(2, true)}
	for _, stack := range []int{1, 127, 128, 1 << 16} {
		m := smallest()
		m.Stack = stack
		l = append(l, m)
	}
	r := numbers(41)
	for range 60 {
		l = append(l, random(&r))
	}
	return l
}

// widest is an image that has as much of everything as there may be.
func widest() api.Image {
	m := api.Image{Main: 63, Stack: 1 << 16}
	for f := range 64 {
		m.Funcs = append(m.Funcs, api.Func{Entry: 256 * f, Params: 0, Locals: 64})
		for at := range 255 {
			m.Code = append(m.Code, api.Ins{Op: api.OpLdX, A: at, B: 4096 - at})
		}
		m.Code = append(m.Code, api.Ins{Op: api.OpJmp, A: 256 * f})
	}
	for line := range 32 {
		m.Vecs = append(m.Vecs, api.Vec{Line: 31 - line, Prio: 15, Func: line})
		m.Ports = append(m.Ports, api.Port{Write: line%2 == 0, Read: line < 8})
	}
	var all []int
	for cell := range 4096 {
		all = append(all, cell)
		m.Init = append(m.Init, math.MaxUint32-uint32(cell))
	}
	for range 64 {
		m.Atoms = append(m.Atoms, slices.Clone(all))
	}
	return m
}

// chain is n functions of which each calls the next one, or, down, the one
// ahead of it; main is the one that none calls.
func chain(n int, down bool) api.Image {
	m := api.Image{Stack: 1}
	for f := range n {
		m.Funcs = append(m.Funcs, api.Func{Entry: len(m.Code)})
		if down && f > 0 {
			m.Code = append(m.Code, api.Ins{Op: api.OpCall, A: f - 1})
		}
		if !down && f < n-1 {
			m.Code = append(m.Code, api.Ins{Op: api.OpCall, A: f + 1})
		}
		m.Code = append(m.Code, api.Ins{Op: api.OpRet})
	}
	if down {
		m.Main = n - 1
	}
	return m
}

// random is a valid image of some functions, in which those of a smaller rank
// are called.
func random(r *numbers) api.Image {
	m := api.Image{Stack: 1 + r.below(1<<16), Init: make([]uint32, r.below(200))}
	for i := range m.Init {
		m.Init[i] = r.word() << r.below(32) >> r.below(32)
	}
	for range r.below(33) {
		m.Ports = append(m.Ports, api.Port{Read: r.below(2) > 0, Write: r.below(2) > 0})
	}
	for range r.below(5) {
		var cells []int
		for cell := r.below(9); cell < len(m.Init); cell += 1 + r.below(40) {
			cells = append(cells, cell)
		}
		m.Atoms = append(m.Atoms, cells)
	}
	ranks := make([]int, 2+r.below(20))
	for f := range ranks {
		ranks[f] = r.below(6)
	}
	m.Main = r.below(len(ranks))
	for f := range ranks {
		locals := r.below(65)
		x := api.Func{Entry: len(m.Code), Params: r.below(locals + 1), Locals: locals}
		if f == m.Main || r.below(2) > 0 {
			x.Params = 0
		}
		m.Funcs = append(m.Funcs, x)
		m.Code = append(m.Code, body(r, m, f, ranks)...)
	}
	for line := range 32 {
		if f := r.below(len(ranks)); r.below(8) == 0 && f != m.Main && m.Funcs[f].Params == 0 {
			m.Vecs = append(m.Vecs, api.Vec{Line: line, Prio: 1 + r.below(15), Func: f})
		}
	}
	return m
}

// body is the code of the last function of an image that is being made.
func body(r *numbers, m api.Image, f int, ranks []int) []api.Ins {
	var l []api.Ins
	size, x := 1+r.below(30), m.Funcs[f]
	for len(l) < size-1 {
		i := api.Ins{Op: 1 + r.below(24)}
		least, most := 0, 0 // of A; most 0: there is none
		switch i.Op {
		case api.OpPush:
			i.A = int(r.word())
		case api.OpPop, api.OpPt, api.OpRet:
		case api.OpHalt:
			if f != m.Main {
				continue
			}
		case api.OpLd, api.OpSt:
			most = len(m.Init)
		case api.OpLdX, api.OpStX:
			most = len(m.Init)
		case api.OpLdL, api.OpStL:
			most = x.Locals
		case api.OpIn, api.OpOut:
			most = len(m.Ports)
		case api.OpBin:
			least, most = 1, 20
		case api.OpUn:
			least, most = 1, 4
		case api.OpJmp, api.OpJz:
			least, most = x.Entry, x.Entry+size
		case api.OpCall:
			most = len(ranks)
		case api.OpEn, api.OpDis:
			most = 32
		case api.OpLvl:
			most = 16
		case api.OpBeg, api.OpEnd:
			most = len(m.Atoms)
		}
		if most > 0 {
			i.A = least + r.below(most-least)
		}
		switch i.Op {
		case api.OpCut:
			i.A = r.one(8, 16, 32)
		case api.OpSt, api.OpStL:
			i.B = r.one(8, 16, 32)
		case api.OpStX:
			i.C = r.one(8, 16, 32)
			fallthrough
		case api.OpLdX:
			i.B = 1 + r.below(max(1, most-i.A))
		}
		if i.Op == api.OpCall && ranks[i.A] >= ranks[f] || code.Check(i) != api.OK || misplaced(m, f, [2]int{x.Entry, x.Entry + size}, i) && i.Op != api.OpCall {
			continue
		}
		l = append(l, i)
	}
	if f == m.Main && r.below(2) > 0 {
		return append(l, api.Ins{Op: api.OpHalt})
	}
	if r.below(3) > 0 {
		return append(l, api.Ins{Op: api.OpRet})
	}
	return append(l, api.Ins{Op: api.OpJmp, A: x.Entry + r.below(size)})
}
