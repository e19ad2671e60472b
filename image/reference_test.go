package image_test

import (
	"encoding/binary"
	"slices"

	"lamplighter/api"
	"lamplighter/code"
)

// numbers is a fixed row of numbers that follow no plain pattern.
type numbers uint64

// word is the next number of the row.
func (r *numbers) word() uint32 {
	*r = *r*6364136223846793005 + 1442695040888963407
	return uint32(*r >> 33)
}

// below is the next number of the row, made one from 0 to n-1.
func (r *numbers) below(n int) int {
	return int(r.word()>>3) % n
}

// one is one of some numbers.
func (r *numbers) one(l ...int) int {
	return l[r.below(len(l))]
}

// copied is an image that shares nothing with another one.
func copied(m api.Image) api.Image {
	m.Code, m.Funcs, m.Vecs = slices.Clone(m.Code), slices.Clone(m.Funcs), slices.Clone(m.Vecs)
	m.Init, m.Ports, m.Atoms = slices.Clone(m.Init), slices.Clone(m.Ports), slices.Clone(m.Atoms)
	for i := range m.Atoms {
		m.Atoms[i] = slices.Clone(m.Atoms[i])
	}
	return m
}

// ranges is where the code of each function of a valid image begins and ends.
func ranges(m api.Image) [][2]int {
	l := make([][2]int, len(m.Funcs))
	end := len(m.Code)
	for f := len(m.Funcs) - 1; f >= 0; f-- {
		l[f] = [2]int{m.Funcs[f].Entry, end}
		end = m.Funcs[f].Entry
	}
	return l
}

// called says of each function of a valid image which ones it calls.
func called(m api.Image) [][]int {
	l := make([][]int, len(m.Funcs))
	for f, r := range ranges(m) {
		for at := r[0]; at < r[1]; at++ {
			if m.Code[at].Op == api.OpCall {
				l[f] = append(l[f], m.Code[at].A)
			}
		}
		slices.Sort(l[f])
		l[f] = slices.Compact(l[f])
	}
	return l
}

// tooLong reports whether there is too much of something.
func tooLong(m api.Image) bool {
	long := len(m.Code) > 16384 || len(m.Funcs) > 64 || len(m.Vecs) > 32 || len(m.Init) > 4096 || len(m.Ports) > 32 || len(m.Atoms) > 64
	return long || slices.ContainsFunc(m.Atoms, func(l []int) bool { return len(l) > 4096 })
}

// wrong reports whether an image is not valid, apart from recursion.
func wrong(m api.Image) bool {
	if len(m.Funcs) < 1 || m.Main < 0 || m.Main >= len(m.Funcs) || m.Funcs[m.Main].Params != 0 || m.Stack <= 0 || m.Stack > 65536 {
		return true
	}
	entries := []int{-1}
	for _, f := range m.Funcs {
		if f.Params < 0 || f.Locals > 64 || f.Locals < f.Params {
			return true
		}
		entries = append(entries, f.Entry)
	}
	entries = append(entries, len(m.Code))
	if entries[1] != 0 || !slices.IsSorted(entries) || len(slices.Compact(slices.Clone(entries))) != len(entries) {
		return true
	}
	lines := map[int]int{}
	for _, v := range m.Vecs {
		lines[v.Line]++
		if lines[v.Line] > 1 || v.Line < 0 || v.Line > 31 || v.Prio < 1 || v.Prio > 15 || v.Func < 0 || v.Func >= len(m.Funcs) || v.Func == m.Main || m.Funcs[v.Func].Params > 0 {
			return true
		}
	}
	for _, cells := range m.Atoms {
		for i, cell := range cells {
			if cell < 0 || cell >= len(m.Init) || i+1 < len(cells) && cells[i+1] <= cell {
				return true
			}
		}
	}
	for f, r := range ranges(m) {
		for at := r[0]; at < r[1]; at++ {
			if misplaced(m, f, r, m.Code[at]) {
				return true
			}
		}
		if op := m.Code[r[1]-1].Op; op != api.OpHalt && op != api.OpJmp && op != api.OpRet {
			return true
		}
	}
	return false
}

// misplaced reports whether an instruction may not be in a function.
func misplaced(m api.Image, f int, r [2]int, i api.Ins) bool {
	if code.Check(i) != api.OK {
		return true
	}
	switch i.Op {
	case api.OpHalt:
		return f != m.Main
	case api.OpJmp, api.OpJz:
		return i.A < r[0] || i.A >= r[1]
	}
	return i.A >= limit(m, f, i)
}

// limit is what the A of an instruction has to stay below, as far as the image
// tells.
func limit(m api.Image, f int, i api.Ins) int {
	switch i.Op {
	case api.OpLd, api.OpSt:
		return len(m.Init)
	case api.OpLdX, api.OpStX:
		return len(m.Init) - i.B + 1
	case api.OpLdL, api.OpStL:
		return m.Funcs[f].Locals
	case api.OpIn, api.OpOut:
		return len(m.Ports)
	case api.OpCall:
		return len(m.Funcs)
	case api.OpBeg, api.OpEnd:
		return len(m.Atoms)
	}
	return 1 << 32
}

// recurs reports whether a function calls itself, through however many others.
func recurs(m api.Image) bool {
	var reach [64][64]bool
	for f, l := range called(m) {
		for _, g := range l {
			reach[f][g] = true
		}
	}
	n := len(m.Funcs)
	for by := range n {
		for f := range n {
			for g := range n {
				reach[f][g] = reach[f][g] || reach[f][by] && reach[by][g]
			}
		}
	}
	for f := range n {
		if reach[f][f] {
			return true
		}
	}
	return false
}

// expected is the error of an image.
func expected(m api.Image) api.Errno {
	switch {
	case tooLong(m):
		return api.ErrLong
	case wrong(m):
		return api.ErrArg
	case recurs(m):
		return api.ErrLoop
	}
	return api.OK
}

// ordered is the order of the functions of a valid image.
func ordered(m api.Image) []int {
	callees := called(m)
	var l []int
	for len(l) < len(callees) {
		for f, needs := range callees {
			ready := !slices.Contains(l, f)
			for _, g := range needs {
				ready = ready && slices.Contains(l, g)
			}
			if ready {
				l = append(l, f)
				break
			}
		}
	}
	return l
}

// row is the numbers of an image, as the chapter puts them.
func row(m api.Image) []uint64 {
	var l []uint64
	add := func(numbers ...int) {
		for _, n := range numbers {
			l = append(l, uint64(n))
		}
	}
	add(len(m.Funcs))
	for _, f := range m.Funcs {
		add(f.Entry, f.Params, f.Locals)
	}
	add(len(m.Vecs))
	for _, v := range m.Vecs {
		add(v.Line, v.Prio, v.Func)
	}
	add(m.Main, len(m.Init))
	for _, w := range m.Init {
		l = append(l, uint64(w))
	}
	add(len(m.Ports))
	for _, p := range m.Ports {
		add(map[api.Port]int{{}: 0, {Read: true}: 1, {Write: true}: 2, {Read: true, Write: true}: 3}[p])
	}
	add(m.Stack, len(m.Atoms))
	for _, cells := range m.Atoms {
		add(len(cells))
		add(cells...)
	}
	add(len(m.Code))
	for _, i := range m.Code {
		add(i.Op, i.A, i.B, i.C)
	}
	return l
}

// encoded is numbers as varints.
func encoded(l []uint64) []byte {
	var b []byte
	for _, n := range l {
		b = binary.AppendUvarint(b, n)
	}
	return b
}
