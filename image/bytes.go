package image

import (
	"math"

	"lamplighter/api"
)

// In a varint each byte has seven bits of the number; more says that another
// byte follows.
const (
	seven = 7
	more  = 1 << seven
)

// No number of an image is greater than a word, and no word needs more bytes.
const longest = 5

// put appends numbers, as varints.
func put(b []byte, numbers ...int) []byte {
	for _, n := range numbers {
		for ; n >= more; n >>= seven {
			b = append(b, byte(n)|more)
		}
		b = append(b, byte(n))
	}
	return b
}

// write returns the bytes of a valid image.
func write(m *api.Image) []byte {
	b := put(nil, len(m.Funcs))
	for _, f := range m.Funcs {
		b = put(b, f.Entry, f.Params, f.Locals)
	}
	b = put(b, len(m.Vecs))
	for _, v := range m.Vecs {
		b = put(b, v.Line, v.Prio, v.Func)
	}
	b = put(b, m.Main, len(m.Init))
	for _, word := range m.Init {
		b = put(b, int(word))
	}
	b = put(b, len(m.Ports))
	for _, p := range m.Ports {
		b = put(b, access(p))
	}
	b = put(b, m.Stack, len(m.Atoms))
	for _, cells := range m.Atoms {
		b = put(b, len(cells))
		b = put(b, cells...)
	}
	b = put(b, len(m.Code))
	for _, i := range m.Code {
		b = put(b, i.Op, i.A, i.B, i.C)
	}
	return b
}

// What a port has is the sum of these.
const (
	readable = 1
	writable = 2
)

// access is what a port has, as a number.
func access(p api.Port) int {
	n := 0
	if p.Read {
		n += readable
	}
	if p.Write {
		n += writable
	}
	return n
}

// reader takes numbers from the beginning of bytes.
type reader struct {
	rest []byte
	bad  bool // something was no number, or too great
}

// fail gives up the rest, and answers 0.
func (r *reader) fail() int {
	r.rest, r.bad = nil, true
	return 0
}

// number takes a number that is a word, in as few bytes as it needs.
func (r *reader) number() int {
	n := 0
	for at, b := range r.rest[:min(longest, len(r.rest))] {
		n |= int(b&^more) << (seven * at)
		if b >= more {
			continue
		}
		if n > math.MaxUint32 || at > 0 && b == 0 {
			return r.fail()
		}
		r.rest = r.rest[at+1:]
		return n
	}
	return r.fail()
}

// upTo takes a number that is not greater than most.
func (r *reader) upTo(most int) int {
	n := r.number()
	if n > most {
		return r.fail()
	}
	return n
}

// list takes the number of elements, and these. More than most are not taken,
// so that a number alone cannot ask for much memory.
func list[T any](r *reader, most int, element func(*reader) T) []T {
	var l []T
	for range r.upTo(most) {
		l = append(l, element(r))
	}
	return l
}

// image takes an image, which may be one that is not valid.
func (r *reader) image() api.Image {
	var m api.Image
	m.Funcs = list(r, api.MaxFuncs, (*reader).function)
	m.Vecs = list(r, api.MaxVecs, (*reader).vector)
	m.Main = r.number()
	m.Init = list(r, api.MaxCells, (*reader).word)
	m.Ports = list(r, api.MaxPorts, (*reader).port)
	m.Stack = r.number()
	m.Atoms = list(r, api.MaxAtoms, (*reader).section)
	m.Code = list(r, api.MaxCode, (*reader).instruction)
	return m
}

func (r *reader) function() api.Func {
	var f api.Func
	f.Entry, f.Params, f.Locals = r.number(), r.number(), r.number()
	return f
}

func (r *reader) vector() api.Vec {
	var v api.Vec
	v.Line, v.Prio, v.Func = r.number(), r.number(), r.number()
	return v
}

func (r *reader) word() uint32 {
	return uint32(r.number())
}

func (r *reader) port() api.Port {
	n := r.upTo(readable + writable)
	return api.Port{Read: n&readable != 0, Write: n&writable != 0}
}

func (r *reader) section() []int {
	return list(r, api.MaxCells, (*reader).number)
}

func (r *reader) instruction() api.Ins {
	var i api.Ins
	i.Op, i.A, i.B, i.C = r.number(), r.number(), r.number(), r.number()
	return i
}
