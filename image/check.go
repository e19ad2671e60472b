package image

import (
	"lamplighter/api"
	"lamplighter/code"
	"lamplighter/lines"
)

// subject is an image that is being checked.
type subject struct {
	m *api.Image
}

// checks are in the order of the errors that they tell, and each relies on
// those ahead of it.
func checks() []func(subject) api.Errno {
	return []func(subject) api.Errno{
		subject.counts,
		subject.functions,
		subject.main,
		subject.vectors,
		subject.stack,
		subject.sections,
		subject.instructions,
		subject.lasts,
		subject.recursion,
	}
}

// has reports whether a list has an element of that number.
func has[T any](l []T, n int) bool {
	return 0 <= n && n < len(l)
}

// bounds returns where the code of a function begins, and where it ends.
func bounds(m *api.Image, f int) (from, to int) {
	to = len(m.Code)
	if has(m.Funcs, f+1) {
		to = m.Funcs[f+1].Entry
	}
	return m.Funcs[f].Entry, to
}

// counts checks how much there is of everything that is counted.
func (s subject) counts() api.Errno {
	m := s.m
	if len(m.Funcs) > api.MaxFuncs || len(m.Code) > api.MaxCode || len(m.Vecs) > api.MaxVecs ||
		len(m.Init) > api.MaxCells || len(m.Ports) > api.MaxPorts || len(m.Atoms) > api.MaxAtoms {
		return api.ErrLong
	}
	for _, cells := range m.Atoms {
		if len(cells) > api.MaxCells {
			return api.ErrLong
		}
	}
	return api.OK
}

// functions checks where the code of each function is, and its locals. Since
// each has code, the entries ascend.
func (s subject) functions() api.Errno {
	if len(s.m.Funcs) == 0 || s.m.Funcs[0].Entry != 0 {
		return api.ErrArg
	}
	for f, x := range s.m.Funcs {
		from, to := bounds(s.m, f)
		if from >= to || x.Params < 0 || x.Params > x.Locals || x.Locals > api.MaxLocals {
			return api.ErrArg
		}
	}
	return api.OK
}

// bare reports whether there is such a function, and it has no Params.
func (s subject) bare(f int) bool {
	return has(s.m.Funcs, f) && s.m.Funcs[f].Params == 0
}

func (s subject) main() api.Errno {
	if !s.bare(s.m.Main) {
		return api.ErrArg
	}
	return api.OK
}

func (s subject) vectors() api.Errno {
	if lines.Check(s.m.Vecs) != api.OK {
		return api.ErrArg
	}
	for _, v := range s.m.Vecs {
		if !s.bare(v.Func) || v.Func == s.m.Main {
			return api.ErrArg
		}
	}
	return api.OK
}

func (s subject) stack() api.Errno {
	if s.m.Stack < 1 || s.m.Stack > api.MaxStack {
		return api.ErrArg
	}
	return api.OK
}

// sections checks that their cells exist, and strictly ascend.
func (s subject) sections() api.Errno {
	for _, cells := range s.m.Atoms {
		for at, cell := range cells {
			if !has(s.m.Init, cell) || at > 0 && cell <= cells[at-1] {
				return api.ErrArg
			}
		}
	}
	return api.OK
}

// instructions checks each one for itself, and what it names.
func (s subject) instructions() api.Errno {
	for f := range s.m.Funcs {
		from, to := bounds(s.m, f)
		for _, i := range s.m.Code[from:to] {
			if code.Check(i) != api.OK || !s.finds(f, i) || !stays(i, from, to) {
				return api.ErrArg
			}
		}
	}
	return api.OK
}

// finds reports whether all that an instruction of a function names exists,
// and whether it may be in that function.
func (s subject) finds(f int, i api.Ins) bool {
	switch i.Op {
	case api.OpLd, api.OpSt:
		return has(s.m.Init, i.A)
	case api.OpLdX, api.OpStX:
		return has(s.m.Init, i.A+i.B-1)
	case api.OpLdL, api.OpStL:
		return i.A < s.m.Funcs[f].Locals
	case api.OpIn, api.OpOut:
		return has(s.m.Ports, i.A)
	case api.OpCall:
		return has(s.m.Funcs, i.A)
	case api.OpBeg, api.OpEnd:
		return has(s.m.Atoms, i.A)
	case api.OpHalt:
		return f == s.m.Main
	}
	return true
}

// stays reports whether an instruction does not jump out of the code of its
// function.
func stays(i api.Ins, from, to int) bool {
	at, jumps, _ := code.Jumps(i)
	return !jumps || from <= at && at < to
}

// lasts checks that no function goes on after its last instruction.
func (s subject) lasts() api.Errno {
	for f := range s.m.Funcs {
		_, to := bounds(s.m, f)
		if _, _, goesOn := code.Jumps(s.m.Code[to-1]); goesOn {
			return api.ErrArg
		}
	}
	return api.OK
}

func (s subject) recursion() api.Errno {
	w := walk{m: s.m}
	for f := range s.m.Funcs {
		if w.returns(f) {
			return api.ErrLoop
		}
	}
	return api.OK
}
