package image_test

import (
	"bytes"
	"math"
	"slices"
	"testing"

	"lamplighter/api"
	"lamplighter/code"
	"lamplighter/image"
)

// TestP41CheckValid: images are valid up to the edges; no field of them is
// changed.
func TestP41CheckValid(t *testing.T) {
	for n, m := range valids(t) {
		before := copied(m)
		if e := image.Check(m); e != api.OK || expected(m) != api.OK {
			t.Errorf("image %d: error %d, expected %d", n, e, expected(m))
		}
		if !image.Same(m, before) {
			t.Errorf("image %d was changed", n)
		}
	}
}

// changed is an image, one thing of which is other than in a valid one.
type changed struct {
	name   string
	want   api.Errno
	change func(m *api.Image)
}

// wrongOnes are changes of the firmware that make it wrong, and some that
// nearly do.
func wrongOnes() []changed {
	ins := func(at int, i api.Ins) func(*api.Image) { return func(m *api.Image) { m.Code[at] = i } }
	return []changed{
		{"no function", api.ErrArg, func(m *api.Image) { m.Funcs = nil }},
		{"nothing at all", api.ErrArg, func(m *api.Image) { *m = api.Image{} }},
		{"no code", api.ErrArg, func(m *api.Image) { m.Code = nil }},
		{"the first entry 1", api.ErrArg, func(m *api.Image) { m.Funcs[0].Entry = 1 }},
		{"the first entry -1", api.ErrArg, func(m *api.Image) { m.Funcs[0].Entry = -1 }},
		{"entries descend", api.ErrArg, func(m *api.Image) { m.Funcs[2].Entry, m.Funcs[3].Entry = 23, 18 }},
		{"no code ahead of the next one", api.ErrArg, func(m *api.Image) { m.Funcs[2].Entry = 23 }},
		{"no code at the end", api.ErrArg, func(m *api.Image) { m.Funcs[4].Entry = 30 }},
		{"beyond the end", api.ErrArg, func(m *api.Image) { m.Funcs[4].Entry = 31 }},
		{"far below", api.ErrArg, func(m *api.Image) { m.Funcs[4].Entry = math.MinInt }},
		{"Params -1", api.ErrArg, func(m *api.Image) { m.Funcs[4].Params = -1 }},
		{"Params 0", api.OK, func(m *api.Image) { m.Funcs[4].Params = 0 }},
		{"Params above Locals", api.ErrArg, func(m *api.Image) { m.Funcs[3].Params = 4 }},
		{"Params as Locals", api.OK, func(m *api.Image) { m.Funcs[3].Params = 3 }},
		{"65 Locals", api.ErrArg, func(m *api.Image) { m.Funcs[4].Locals = 65 }},
		{"63 Locals", api.ErrArg, func(m *api.Image) { m.Funcs[4].Locals = 63 }},
		{"64 Locals of main", api.OK, func(m *api.Image) { m.Funcs[1].Locals = 64 }},
		{"Locals below 0", api.ErrArg, func(m *api.Image) { m.Funcs[2].Locals = -1 }},
		{"Main -1", api.ErrArg, func(m *api.Image) { m.Main = -1 }},
		{"Main 5", api.ErrArg, func(m *api.Image) { m.Main = 5 }},
		{"Main has Params", api.ErrArg, func(m *api.Image) { m.Funcs[1].Params = 1 }},
		{"another Main, and halt", api.ErrArg, func(m *api.Image) { m.Main, m.Vecs, m.Funcs[4].Params = 4, nil, 0 }},
		{"Main serves a vector", api.ErrArg, func(m *api.Image) { m.Vecs[1].Func = 1 }},
		{"a vector's Func has Params", api.ErrArg, func(m *api.Image) { m.Vecs[0].Func = 3 }},
		{"a vector's Func 5", api.ErrArg, func(m *api.Image) { m.Vecs[0].Func = 5 }},
		{"a vector's Func -1", api.ErrArg, func(m *api.Image) { m.Vecs[1].Func = -1 }},
		{"Line 32", api.ErrArg, func(m *api.Image) { m.Vecs[1].Line = 32 }},
		{"Line twice", api.ErrArg, func(m *api.Image) { m.Vecs[1].Line = 4 }},
		{"Prio 0", api.ErrArg, func(m *api.Image) { m.Vecs[0].Prio = 0 }},
		{"Prio 16", api.ErrArg, func(m *api.Image) { m.Vecs[0].Prio = 16 }},
		{"no vectors", api.OK, func(m *api.Image) { m.Vecs = nil }},
		{"Stack 0", api.ErrArg, func(m *api.Image) { m.Stack = 0 }},
		{"Stack -1", api.ErrArg, func(m *api.Image) { m.Stack = -1 }},
		{"Stack 1", api.OK, func(m *api.Image) { m.Stack = 1 }},
		{"Stack 2^16", api.OK, func(m *api.Image) { m.Stack = 1 << 16 }},
		{"Stack 2^16 + 1", api.ErrArg, func(m *api.Image) { m.Stack = 1<<16 + 1 }},
		{"a cell of a section -1", api.ErrArg, func(m *api.Image) { m.Atoms[1] = []int{-1} }},
		{"a cell of a section 6", api.ErrArg, func(m *api.Image) { m.Atoms[1] = []int{6} }},
		{"a cell of a section 0", api.OK, func(m *api.Image) { m.Atoms[1] = []int{0} }},
		{"a cell of a section twice", api.ErrArg, func(m *api.Image) { m.Atoms[2] = []int{1, 1} }},
		{"cells of a section descend", api.ErrArg, func(m *api.Image) { m.Atoms[2] = []int{0, 2, 1, 3} }},
		{"the last cell of the last section", api.ErrArg, func(m *api.Image) { m.Atoms[2][4] = 6 }},
		{"no Op", api.ErrArg, ins(2, api.Ins{})},
		{"Op 25", api.ErrArg, ins(2, api.Ins{Op: 25})},
		{"what an Op does not name", api.ErrArg, ins(29, api.Ins{Op: api.OpJmp, A: 29, B: 1})},
		{"ld 6", api.ErrArg, ins(10, api.Ins{Op: api.OpLd, A: 6})},
		{"ld 0", api.OK, ins(10, api.Ins{Op: api.OpLd})},
		{"st 6", api.ErrArg, ins(11, api.Ins{Op: api.OpSt, A: 6, B: 8})},
		{"ldx 5 1", api.OK, ins(20, api.Ins{Op: api.OpLdX, A: 5, B: 1})},
		{"ldx 0 6", api.OK, ins(20, api.Ins{Op: api.OpLdX, A: 0, B: 6})},
		{"ldx 0 7", api.ErrArg, ins(20, api.Ins{Op: api.OpLdX, A: 0, B: 7})},
		{"ldx 6 1", api.ErrArg, ins(20, api.Ins{Op: api.OpLdX, A: 6, B: 1})},
		{"ldx 2^20 2^20", api.ErrArg, ins(20, api.Ins{Op: api.OpLdX, A: 1 << 20, B: 1 << 20})},
		{"stx 2 4", api.OK, ins(20, api.Ins{Op: api.OpStX, A: 2, B: 4, C: 8})},
		{"stx 2 5", api.ErrArg, ins(20, api.Ins{Op: api.OpStX, A: 2, B: 5, C: 8})},
		{"ldl 2 of 2", api.ErrArg, ins(10, api.Ins{Op: api.OpLdL, A: 2})},
		{"ldl 1 of 2", api.OK, ins(10, api.Ins{Op: api.OpLdL, A: 1})},
		{"ldl of another function", api.ErrArg, ins(19, api.Ins{Op: api.OpLdL})},
		{"stl 3 of 3", api.ErrArg, ins(25, api.Ins{Op: api.OpStL, A: 3, B: 32})},
		{"in 4", api.ErrArg, ins(18, api.Ins{Op: api.OpIn, A: 4})},
		{"in 3, which is not read", api.OK, ins(18, api.Ins{Op: api.OpIn, A: 3})},
		{"out 4", api.ErrArg, ins(15, api.Ins{Op: api.OpOut, A: 4})},
		{"out 0, which is not written", api.OK, ins(15, api.Ins{Op: api.OpOut})},
		{"call 5", api.ErrArg, ins(19, api.Ins{Op: api.OpCall, A: 5})},
		{"call 4", api.OK, ins(19, api.Ins{Op: api.OpCall, A: 4})},
		{"beg 3", api.ErrArg, ins(9, api.Ins{Op: api.OpBeg, A: 3})},
		{"beg 0", api.OK, ins(9, api.Ins{Op: api.OpBeg})},
		{"end 3", api.ErrArg, ins(12, api.Ins{Op: api.OpEnd, A: 3})},
		{"en 30, which has no vector", api.OK, ins(5, api.Ins{Op: api.OpEn, A: 30})},
		{"jz to the last one", api.OK, ins(8, api.Ins{Op: api.OpJz, A: 17})},
		{"jz to the first one", api.OK, ins(8, api.Ins{Op: api.OpJz, A: 4})},
		{"jz behind the last one", api.ErrArg, ins(8, api.Ins{Op: api.OpJz, A: 18})},
		{"jz ahead of the first one", api.ErrArg, ins(8, api.Ins{Op: api.OpJz, A: 3})},
		{"jmp behind the last one", api.ErrArg, ins(16, api.Ins{Op: api.OpJmp, A: 18})},
		{"jmp ahead of the first one", api.ErrArg, ins(29, api.Ins{Op: api.OpJmp, A: 28})},
		{"jmp behind the end", api.ErrArg, ins(29, api.Ins{Op: api.OpJmp, A: 30})},
		{"jmp 2^20", api.ErrArg, ins(29, api.Ins{Op: api.OpJmp, A: 1 << 20})},
		{"the last one ret", api.OK, ins(17, api.Ins{Op: api.OpRet})},
		{"the last one jmp", api.OK, ins(3, api.Ins{Op: api.OpJmp, A: 3})},
		{"the last one jz", api.ErrArg, ins(29, api.Ins{Op: api.OpJz, A: 29})},
		{"the last one of the first function call", api.ErrArg, ins(3, api.Ins{Op: api.OpCall, A: 4})},
		{"halt of a handler", api.ErrArg, ins(22, api.Ins{Op: api.OpHalt})},
		{"halt of the first function", api.ErrArg, ins(1, api.Ins{Op: api.OpHalt})},
		{"halt amid main", api.OK, ins(5, api.Ins{Op: api.OpHalt})},
		{"0 calls itself", api.ErrLoop, ins(1, api.Ins{Op: api.OpCall})},
		{"0 calls 3", api.ErrLoop, ins(1, api.Ins{Op: api.OpCall, A: 3})},
		{"0 calls main", api.ErrLoop, ins(1, api.Ins{Op: api.OpCall, A: 1})},
		{"3 calls main", api.ErrLoop, ins(24, api.Ins{Op: api.OpCall, A: 1})},
		{"a handler calls itself", api.ErrLoop, ins(19, api.Ins{Op: api.OpCall, A: 2})},
		{"a handler calls main", api.OK, ins(19, api.Ins{Op: api.OpCall, A: 1})},
		{"what nothing calls, calls itself", api.ErrLoop, func(m *api.Image) {
			m.Code = append(m.Code[:29:29], api.Ins{Op: api.OpCall, A: 4}, api.Ins{Op: api.OpRet})
		}},
		{"too much code", api.ErrLong, func(m *api.Image) { m.Code = append(m.Code, make([]api.Ins, 16384-29)...) }},
		{"too many functions", api.ErrLong, func(m *api.Image) { m.Funcs = make([]api.Func, 65) }},
		{"64 functions without code", api.ErrArg, func(m *api.Image) { m.Funcs = make([]api.Func, 64) }},
		{"too many vectors", api.ErrLong, func(m *api.Image) { m.Vecs = make([]api.Vec, 33) }},
		{"too many cells", api.ErrLong, func(m *api.Image) { m.Init = make([]uint32, 4097) }},
		{"as many cells as there may be", api.OK, func(m *api.Image) { m.Init = make([]uint32, 4096) }},
		{"too many ports", api.ErrLong, func(m *api.Image) { m.Ports = make([]api.Port, 33) }},
		{"32 ports", api.OK, func(m *api.Image) { m.Ports = make([]api.Port, 32) }},
		{"too many sections", api.ErrLong, func(m *api.Image) { m.Atoms = make([][]int, 65) }},
		{"64 sections", api.OK, func(m *api.Image) { m.Atoms = make([][]int, 64) }},
		{"too many cells of the first section", api.ErrLong, func(m *api.Image) { m.Atoms[0] = make([]int, 4097) }},
		{"too many cells of the last section", api.ErrLong, func(m *api.Image) { m.Atoms[2] = make([]int, 4097) }},
		{"4096 cells of a section, of which none ascends", api.ErrArg, func(m *api.Image) { m.Atoms[2] = make([]int, 4096) }},
	}
}

// TestP41CheckWrong: each thing that an image must keep to, just kept and just
// not kept.
func TestP41CheckWrong(t *testing.T) {
	for _, x := range wrongOnes() {
		m := firmware(t)
		x.change(&m)
		if e := image.Check(m); e != x.want {
			t.Errorf("%s: error %d, want %d", x.name, e, x.want)
		}
		if e := expected(m); e != x.want {
			t.Errorf("%s: the reference says %d, want %d", x.name, e, x.want)
		}
	}
}

// TestP41CheckCounts: the greatest counts of code, functions and vectors are
// valid, one more is too long.
func TestP41CheckCounts(t *testing.T) {
	for _, x := range []changed{
		{"nothing", api.OK, func(m *api.Image) {}},
		{"code", api.ErrLong, func(m *api.Image) { m.Code = append(m.Code, m.Code[len(m.Code)-1]) }},
		{"functions", api.ErrLong, func(m *api.Image) { m.Funcs = append(m.Funcs, api.Func{Entry: 16383}) }},
		{"vectors", api.ErrLong, func(m *api.Image) { m.Vecs = append(m.Vecs, api.Vec{Line: 1, Prio: 1}) }},
		{"cells", api.ErrLong, func(m *api.Image) { m.Init = append(m.Init, 0) }},
		{"ports", api.ErrLong, func(m *api.Image) { m.Ports = append(m.Ports, api.Port{}) }},
		{"sections", api.ErrLong, func(m *api.Image) { m.Atoms = append(m.Atoms, nil) }},
		{"cells of a section", api.ErrLong, func(m *api.Image) { m.Atoms[63] = append(m.Atoms[63], 4096) }},
		{"one cell less, and a section of one more", api.ErrLong, func(m *api.Image) { m.Init, m.Atoms[1] = nil, make([]int, 4097) }},
		{"one cell less", api.ErrArg, func(m *api.Image) { m.Init = m.Init[1:] }},
	} {
		m := widest()
		x.change(&m)
		if e := image.Check(m); e != x.want {
			t.Errorf("%s: error %d, want %d", x.name, e, x.want)
		}
	}
}

// both applies two changes, and tells whether the second one fits what the
// first one left.
func both(m *api.Image, x, y changed) (fits bool) {
	defer func() { fits = recover() == nil }()
	x.change(m)
	y.change(m)
	return true
}

// TestP41CheckSeveral: of several errors the first one counts: too long, then
// wrong, then recursive.
func TestP41CheckSeveral(t *testing.T) {
	for _, x := range wrongOnes() {
		for _, y := range wrongOnes() {
			m := firmware(t)
			if !both(&m, x, y) {
				continue
			}
			if e, want := image.Check(m), expected(m); e != want {
				t.Errorf("%s, and %s: error %d, want %d", x.name, y.name, e, want)
			}
		}
	}
	m := firmware(t)
	m.Code[1] = api.Ins{Op: api.OpCall}
	m.Stack = 0
	if e := image.Check(m); e != api.ErrArg {
		t.Errorf("recursive without a stack: error %d", e)
	}
	m.Ports = make([]api.Port, 33)
	if e := image.Check(m); e != api.ErrLong {
		t.Errorf("recursive without a stack, too many ports: error %d", e)
	}
}

// TestP41CheckRecursion: rings of calls of each length, wherever they begin,
// and what calls into one.
func TestP41CheckRecursion(t *testing.T) {
	for n := 1; n <= 64; n++ {
		for _, down := range []bool{false, true} {
			m := chain(n, down)
			if e := image.Check(m); e != api.OK {
				t.Errorf("%d in a row: error %d", n, e)
			}
			last := n - 1
			if down {
				last = 0
			}
			for back := range n {
				ring := copied(m)
				at := ring.Funcs[last].Entry
				ring.Code = slices.Insert(ring.Code, at, api.Ins{Op: api.OpCall, A: back})
				for f := last + 1; f < n; f++ {
					ring.Funcs[f].Entry++
				}
				if e := image.Check(ring); e != api.ErrLoop {
					t.Errorf("%d in a row, the last one calls %d: error %d", n, back, e)
				}
			}
		}
	}
}

// change puts another number anywhere in an image.
func change(r *numbers, m *api.Image) {
	n := r.one(-1, 0, 1, 2, 3, 8, 15, 16, 31, 32, 63, 64, 65, len(m.Init)-1, len(m.Init), len(m.Code)-1, len(m.Code), len(m.Funcs), len(m.Atoms), len(m.Ports), r.below(64), r.below(1<<17))
	f, at := r.below(len(m.Funcs)), r.below(len(m.Code))
	switch r.below(9) {
	case 0:
		m.Main = n
	case 1:
		m.Stack = n
	case 2:
		*[]*int{&m.Funcs[f].Entry, &m.Funcs[f].Params, &m.Funcs[f].Locals}[r.below(3)] = n
	case 3, 4:
		m.Code[at].A = n
	case 5:
		*[]*int{&m.Code[at].Op, &m.Code[at].B, &m.Code[at].C}[r.below(3)] = n
	case 6:
		if len(m.Vecs) > 0 {
			v := &m.Vecs[r.below(len(m.Vecs))]
			*[]*int{&v.Line, &v.Prio, &v.Func}[r.below(3)] = n
		}
	case 7:
		if len(m.Atoms) > 0 {
			if l := m.Atoms[r.below(len(m.Atoms))]; len(l) > 0 {
				l[r.below(len(l))] = n
			}
		}
	case 8:
		m.Code[at] = api.Ins{Op: api.OpCall, A: r.below(len(m.Funcs))}
	}
}

// TestP41CheckEverything compares images, each with a few numbers changed,
// with the reference; whatever is wrong has nothing to tell.
func TestP41CheckEverything(t *testing.T) {
	r := numbers(42)
	counts := map[api.Errno]int{}
	for range 6000 {
		m := random(&r)
		for range r.below(3) {
			change(&r, &m)
		}
		e := image.Check(m)
		if want := expected(m); e != want {
			t.Fatalf("%+v: error %d, want %d", m, e, want)
		}
		if counts[e]++; e != api.OK {
			nothing(t, m)
		}
	}
	if counts[api.OK] < 100 || counts[api.ErrArg] < 100 || counts[api.ErrLoop] < 30 {
		t.Errorf("the changes do not tell much: %v", counts)
	}
}

// nothing tests that the functions tell nothing of an image that is not valid.
func nothing(t *testing.T, m api.Image) {
	t.Helper()
	for _, at := range []int{-1, 0, 1, 5} {
		if f, ok := image.Of(m, at); f != 0 || ok {
			t.Errorf("Of(%d) = %d, %v", at, f, ok)
		}
		if from, to := image.Range(m, at); from != 0 || to != 0 {
			t.Errorf("Range(%d) = %d, %d", at, from, to)
		}
		if l := image.Calls(m, at); len(l) > 0 {
			t.Errorf("Calls(%d) = %v", at, l)
		}
	}
	if l := image.Order(m); len(l) > 0 {
		t.Errorf("Order = %v", l)
	}
	if l := image.Params(m); len(l) > 0 {
		t.Errorf("Params = %v", l)
	}
	want := image.Check(m)
	if b, e := image.Bytes(m); len(b) > 0 || e != want {
		t.Errorf("Bytes = %v, %d; want error %d", b, e, want)
	}
	if l, e := image.Text(m); len(l) > 0 || e != want {
		t.Errorf("Text = %v, %d; want error %d", l, e, want)
	}
}

// TestP41Nothing: of images that are not valid nothing is told, also not
// what would be there.
func TestP41Nothing(t *testing.T) {
	for _, x := range wrongOnes() {
		m := firmware(t)
		x.change(&m)
		if x.want != api.OK {
			nothing(t, m)
		}
	}
}

// TestP41Of: each address belongs to the function whose code it is in, others
// to none.
func TestP41Of(t *testing.T) {
	for n, m := range valids(t) {
		if len(m.Code) > 1000 { // each call checks all of it
			continue
		}
		for f, r := range ranges(m) {
			for at := r[0]; at < r[1]; at++ {
				if got, ok := image.Of(m, at); got != f || !ok {
					t.Errorf("image %d: Of(%d) = %d, %v; want %d", n, at, got, ok, f)
				}
			}
		}
		for _, at := range []int{-1, len(m.Code), len(m.Code) + 1, math.MinInt, math.MaxInt} {
			if got, ok := image.Of(m, at); got != 0 || ok {
				t.Errorf("image %d: Of(%d) = %d, %v; want none", n, at, got, ok)
			}
		}
	}
	m := widest()
	for _, x := range [][2]int{{0, 0}, {255, 0}, {256, 1}, {511, 1}, {16127, 62}, {16128, 63}, {16383, 63}} {
		if f, ok := image.Of(m, x[0]); f != x[1] || !ok {
			t.Errorf("widest: Of(%d) = %d, %v; want %d", x[0], f, ok, x[1])
		}
	}
}

// TestP41Range: where the code of each function begins and ends.
func TestP41Range(t *testing.T) {
	for n, m := range valids(t) {
		for f, r := range ranges(m) {
			if from, to := image.Range(m, f); from != r[0] || to != r[1] {
				t.Errorf("image %d: Range(%d) = %d, %d; want %v", n, f, from, to, r)
			}
		}
		for _, f := range []int{-1, len(m.Funcs), len(m.Funcs) + 1, math.MinInt, math.MaxInt} {
			if from, to := image.Range(m, f); from != 0 || to != 0 {
				t.Errorf("image %d: Range(%d) = %d, %d; want 0, 0", n, f, from, to)
			}
			if l := image.Calls(m, f); len(l) > 0 {
				t.Errorf("image %d: Calls(%d) = %v; want none", n, f, l)
			}
		}
	}
}

// TestP41Firmware tells of the firmware what is written beside it.
func TestP41Firmware(t *testing.T) {
	m := firmware(t)
	for f, want := range [][]int{nil, {0, 3}, {0}, {0}, nil} {
		if l := image.Calls(m, f); !slices.Equal(l, want) {
			t.Errorf("Calls(%d) = %v, want %v", f, l, want)
		}
	}
	for f, want := range [][2]int{{0, 4}, {4, 18}, {18, 23}, {23, 29}, {29, 30}} {
		if from, to := image.Range(m, f); from != want[0] || to != want[1] {
			t.Errorf("Range(%d) = %d, %d; want %v", f, from, to, want)
		}
	}
	if l := image.Order(m); !slices.Equal(l, []int{0, 2, 3, 1, 4}) {
		t.Errorf("Order = %v", l)
	}
	if l := image.Params(m); !slices.Equal(l, []int{1, 0, 0, 1, 64}) {
		t.Errorf("Params = %v", l)
	}
}

// TestP41Calls: the calls, the order and the Params are those of the
// reference.
func TestP41Calls(t *testing.T) {
	for n, m := range valids(t) {
		for f, want := range called(m) {
			if l := image.Calls(m, f); !slices.Equal(l, want) {
				t.Errorf("image %d: Calls(%d) = %v, want %v", n, f, l, want)
			}
		}
		if l, want := image.Order(m), ordered(m); !slices.Equal(l, want) {
			t.Errorf("image %d: Order = %v, want %v", n, l, want)
		}
		var want []int
		for _, f := range m.Funcs {
			want = append(want, f.Params)
		}
		if l := image.Params(m); !slices.Equal(l, want) {
			t.Errorf("image %d: Params = %v, want %v", n, l, want)
		}
	}
}

// TestP41Order: a function that becomes ready late comes ahead of greater ones
// that were ready all the time.
func TestP41Order(t *testing.T) {
	m := api.Image{Stack: 1, Main: 4, Funcs: []api.Func{{Entry: 0}, {Entry: 2}, {Entry: 4}, {Entry: 5}, {Entry: 6}}}
	m.Code = program(t, "call 2", "ret", "call 3", "ret", "ret", "ret", "halt")
	if l := image.Order(m); !slices.Equal(l, []int{2, 0, 3, 1, 4}) {
		t.Errorf("Order = %v", l)
	}
}

// TestP41Same: images are equal if no field differs, also images that are not
// valid; no and empty lists are the same.
func TestP41Same(t *testing.T) {
	for _, x := range wrongOnes() {
		m := firmware(t)
		x.change(&m)
		if !image.Same(m, copied(m)) {
			t.Errorf("%s: not the same as its copy", x.name)
		}
		if image.Same(m, firmware(t)) || image.Same(firmware(t), m) {
			t.Errorf("%s: the same as without", x.name)
		}
	}
	for _, x := range []changed{
		{"B", 0, func(m *api.Image) { m.Code[3].B++ }},
		{"C", 0, func(m *api.Image) { m.Code[20].C = 16 }},
		{"more code", 0, func(m *api.Image) { m.Code = append(m.Code, m.Code[29]) }},
		{"less code", 0, func(m *api.Image) { m.Code = m.Code[:29] }},
		{"a cell", 0, func(m *api.Image) { m.Init[5]-- }},
		{"more cells", 0, func(m *api.Image) { m.Init = append(m.Init, 0) }},
		{"a port's Read", 0, func(m *api.Image) { m.Ports[3].Read = true }},
		{"a port's Write", 0, func(m *api.Image) { m.Ports[3].Write = true }},
		{"fewer ports", 0, func(m *api.Image) { m.Ports = m.Ports[:3] }},
		{"fewer sections", 0, func(m *api.Image) { m.Atoms = m.Atoms[:2] }},
		{"more sections", 0, func(m *api.Image) { m.Atoms = append(m.Atoms, nil) }},
		{"a cell of a section", 0, func(m *api.Image) { m.Atoms[2][1] = 3 }},
		{"fewer cells of a section", 0, func(m *api.Image) { m.Atoms[2] = m.Atoms[2][:4] }},
	} {
		m := firmware(t)
		x.change(&m)
		if image.Same(m, firmware(t)) || image.Same(firmware(t), m) {
			t.Errorf("another %s: the same", x.name)
		}
	}
	empty := api.Image{Code: []api.Ins{}, Funcs: []api.Func{}, Vecs: []api.Vec{}, Init: []uint32{}, Ports: []api.Port{}, Atoms: [][]int{}}
	if !image.Same(api.Image{}, empty) || !image.Same(empty, api.Image{}) {
		t.Error("no lists, and empty ones: not the same")
	}
	if !image.Same(api.Image{Atoms: [][]int{nil, {}}}, api.Image{Atoms: [][]int{{}, nil}}) {
		t.Error("no section, and an empty one: not the same")
	}
}

// TestP41Examples tells the chapter's examples of errors.
func TestP41Examples(t *testing.T) {
	m := smallest()
	m.Code[1] = api.Ins{Op: api.OpPop}
	if e := image.Check(m); e != api.ErrArg {
		t.Errorf("the last one pop: error %d", e)
	}
	m.Code = program(t, "pt", "call 0", "halt")
	if e := image.Check(m); e != api.ErrLoop {
		t.Errorf("call 0 ahead of halt: error %d", e)
	}
}

// TestP41NewMemory: no list that is told shares memory with another one, or
// with the image.
func TestP41NewMemory(t *testing.T) {
	m := firmware(t)
	for _, list := range []func() []int{
		func() []int { return image.Calls(m, 1) },
		func() []int { return image.Order(m) },
		func() []int { return image.Params(m) },
	} {
		first := list()
		want := slices.Clone(first)
		for i := range first[:cap(first)] {
			first[:cap(first)][i] = 77
		}
		if again := list(); !slices.Equal(again, want) {
			t.Errorf("%v became %v", want, again)
		}
	}
	if !image.Same(m, firmware(t)) {
		t.Errorf("the image became %v", m)
	}
}

// TestP42Example tells the chapter's bytes.
func TestP42Example(t *testing.T) {
	want := []byte{1, 0, 0, 0, 0, 0, 0, 0, 0x0a, 0, 2, 0x16, 0, 0, 0, 1, 0, 0, 0}
	if b, e := image.Bytes(smallest()); !bytes.Equal(b, want) || e != api.OK {
		t.Errorf("Bytes = %x, %d; want %x", b, e, want)
	}
	if m, e := image.Read(want); !image.Same(m, smallest()) || e != api.OK {
		t.Errorf("Read = %v, %d", m, e)
	}
}

// TestP42Firmware: the bytes of the firmware up to its code, written out.
func TestP42Firmware(t *testing.T) {
	want := []byte{
		5, 0, 1, 1, 4, 0, 2, 18, 0, 0, 23, 1, 3, 29, 64, 64,
		2, 4, 15, 2, 31, 1, 2,
		1,
		6, 0, 127, 0x80, 1, 0xff, 0x7f, 0x80, 0x80, 1, 0xff, 0xff, 0xff, 0xff, 0x0f,
		4, 1, 2, 3, 0,
		0xac, 2,
		3, 0, 1, 5, 5, 0, 1, 2, 4, 5,
		30, 8, 0, 0, 0, 2, 0xac, 2, 0, 0, 12, 1, 0, 0, 18, 0, 0, 0, 21, 3, 0, 0, 19, 4, 0, 0,
	}
	b, e := image.Bytes(firmware(t))
	if e != api.OK || !bytes.HasPrefix(b, want) {
		t.Errorf("Bytes = %v, %d; want %v and more", b, e, want)
	}
}

// TestP42Bytes: the bytes are those of the reference, and are new ones.
func TestP42Bytes(t *testing.T) {
	for n, m := range valids(t) {
		want := encoded(row(m))
		b, e := image.Bytes(m)
		if e != api.OK || !bytes.Equal(b, want) {
			t.Fatalf("image %d: Bytes = %x, %d; want %x", n, b, e, want)
		}
		clear(b[:cap(b)])
		if again, _ := image.Bytes(m); !bytes.Equal(again, want) {
			t.Fatalf("image %d: other bytes than before", n)
		}
	}
}

// TestP42Read: bytes are read back; what is read shares no memory, and the
// bytes are not changed.
func TestP42Read(t *testing.T) {
	for n, m := range valids(t) {
		b := encoded(row(m))
		before := slices.Clone(b)
		got, e := image.Read(b)
		if e != api.OK || !image.Same(got, m) || !bytes.Equal(b, before) {
			t.Fatalf("image %d: Read = %+v, %d; want %+v", n, got, e, m)
		}
		clear(b)
		scribble(got)
		if !image.Same(got, m) {
			t.Fatalf("image %d: lists of it share memory", n)
		}
	}
}

// scribble writes beyond the end of each list of an image.
func scribble(m api.Image) {
	clear(m.Code[len(m.Code):cap(m.Code)])
	for _, l := range m.Atoms {
		for i := len(l); i < cap(l); i++ {
			l[:cap(l)][i] = -5
		}
	}
}

// TestP42ReadNumbers: how a number may be written, wherever it stands.
func TestP42ReadNumbers(t *testing.T) {
	// of is the bytes of the smallest image with a cell, whose number is given.
	of := func(number ...byte) []byte {
		b := append([]byte{1, 0, 0, 0, 0, 0, 1}, number...)
		return append(b, 0, 0x0a, 0, 2, 0x16, 0, 0, 0, 1, 0, 0, 0)
	}
	for _, x := range []struct {
		b    []byte
		want uint32
	}{
		{[]byte{0}, 0}, {[]byte{1}, 1}, {[]byte{0x7f}, 127}, {[]byte{0x80, 1}, 128}, {[]byte{0xff, 0x7f}, 16383}, {[]byte{0x80, 0x80, 1}, 16384},
		{[]byte{0xff, 0xff, 0x7f}, 1<<21 - 1}, {[]byte{0x80, 0x80, 0x80, 1}, 1 << 21}, {[]byte{0xff, 0xff, 0xff, 0x7f}, 1<<28 - 1},
		{[]byte{0x80, 0x80, 0x80, 0x80, 1}, 1 << 28}, {[]byte{0xff, 0xff, 0xff, 0xff, 0x0f}, math.MaxUint32},
	} {
		if m, e := image.Read(of(x.b...)); e != api.OK || len(m.Init) != 1 || m.Init[0] != x.want {
			t.Errorf("%x: %v, %d; want %d", x.b, m.Init, e, x.want)
		}
	}
	for _, b := range [][]byte{
		{0x80, 0}, {0x81, 0}, {0xff, 0}, {0x80, 0x80, 0}, {0x81, 0x80, 0x80, 0}, {0xff, 0xff, 0xff, 0xff, 0},
		{0x80, 0x80, 0x80, 0x80, 0x10}, {0xff, 0xff, 0xff, 0xff, 0x1f}, {0xff, 0xff, 0xff, 0xff, 0x7f},
		{0x80, 0x80, 0x80, 0x80, 0x80, 0}, {0x81, 0x80, 0x80, 0x80, 0x80, 0}, {0x80, 0x80, 0x80, 0x80, 0x80, 1},
		{0x81, 0x80, 0x80, 0x80, 0x80, 0x80, 0x80, 0x80, 0x80, 1}, {0x81, 0x80, 0x80, 0x80, 0x80, 0x80, 0x80, 0x80, 0x80, 0x80, 1},
		{0xff, 0xff, 0xff, 0xff, 0xff, 0xff, 0xff, 0xff, 0xff, 1}, bytes.Repeat([]byte{0x80}, 40), {},
	} {
		refused(t, of(b...))
	}
}

// refused tests that bytes are those of no image.
func refused(t *testing.T, b []byte) {
	t.Helper()
	if m, e := image.Read(b); e != api.ErrBad || !isZero(m) {
		t.Errorf("Read(%x) = %+v, %d; want ErrBad", b[:min(len(b), 60)], m, e)
	}
}

// isZero reports whether an image has nothing at all.
func isZero(m api.Image) bool {
	return image.Same(m, api.Image{})
}

// TestP42ReadWrong: bytes that are cut off, or have some left over, and counts
// that are greater than what follows.
func TestP42ReadWrong(t *testing.T) {
	for _, m := range []api.Image{smallest(), firmware(t), chain(64, true)} {
		b := encoded(row(m))
		for n := range b {
			refused(t, b[:n])
		}
		for _, more := range [][]byte{{0}, {1}, {0x80}, {0, 0, 0, 0}, b} {
			refused(t, slices.Concat(b, more))
		}
	}
	for _, b := range [][]byte{
		nil, {0}, {1}, bytes.Repeat([]byte{0}, 9), {1, 0, 0, 0, 0, 0, 0, 0, 0x0a, 0, 0}, {0xff, 0xff, 0xff, 0xff, 0x0f}, {0xff, 0xff, 0xff, 0xff, 0xff, 0xff, 0xff, 0xff, 0x7f},
		{1, 0, 0, 0, 0, 0, 0, 0, 0x0a, 0, 0xff, 0xff, 0xff, 0xff, 0x0f, 0x16, 0, 0, 0, 1, 0, 0, 0},
		{1, 0, 0, 0, 0, 0, 0, 0, 0x0a, 0, 3, 0x16, 0, 0, 0, 1, 0, 0, 0},
		{1, 0, 0, 0, 0, 0, 0, 0, 0x0a, 1, 0xff, 0xff, 0xff, 0xff, 7, 2, 0x16, 0, 0, 0, 1, 0, 0, 0},
		{1, 0, 0, 0, 0, 0, 0, 1, 4, 0x0a, 0, 2, 0x16, 0, 0, 0, 1, 0, 0, 0},
		{1, 0, 0, 0, 0, 0, 0, 1, 7, 0x0a, 0, 2, 0x16, 0, 0, 0, 1, 0, 0, 0},
	} {
		refused(t, b)
	}
}

// TestP42ReadInvalid: the bytes that an image would have that is not valid.
func TestP42ReadInvalid(t *testing.T) {
	for _, x := range wrongOnes() {
		m := firmware(t)
		x.change(&m)
		b := encoded(row(m))
		if x.want != api.OK {
			refused(t, b)
		} else if got, e := image.Read(b); e != api.OK || !image.Same(got, m) {
			t.Errorf("%s: error %d", x.name, e)
		}
	}
	r := numbers(43)
	for range 1500 {
		m := random(&r)
		change(&r, &m)
		if expected(m) != api.OK {
			refused(t, encoded(row(m)))
		}
	}
}

// TestP42ReadLong: counts beyond the limits are refused, with all that they
// count.
func TestP42ReadLong(t *testing.T) {
	for _, add := range []func(m *api.Image){
		func(m *api.Image) { m.Code = append(m.Code, m.Code[16383]) },
		func(m *api.Image) { m.Vecs = append(m.Vecs, api.Vec{Line: 1, Prio: 1}) },
		func(m *api.Image) { m.Init = append(m.Init, 0) },
		func(m *api.Image) { m.Ports = append(m.Ports, api.Port{}) },
		func(m *api.Image) { m.Atoms = append(m.Atoms, nil) },
		func(m *api.Image) { m.Atoms[63] = append(m.Atoms[63], 4096) },
		func(m *api.Image) { m.Funcs = append(m.Funcs, api.Func{Entry: 16383}) },
	} {
		m := widest()
		add(&m)
		refused(t, encoded(row(m)))
	}
}

// TestP42Text: the text of each instruction, and nothing of an image that is
// not valid.
func TestP42Text(t *testing.T) {
	for n, m := range valids(t) {
		l, e := image.Text(m)
		if e != api.OK || len(l) != len(m.Code) {
			t.Fatalf("image %d: %d texts, %d", n, len(l), e)
		}
		for at, i := range m.Code {
			if l[at] != code.Text(i) {
				t.Fatalf("image %d: %q at %d, want %q", n, l[at], at, code.Text(i))
			}
		}
	}
	if l, e := image.Text(smallest()); e != api.OK || !slices.Equal(l, []string{"pt", "halt"}) {
		t.Errorf("Text = %q, %d", l, e)
	}
}
