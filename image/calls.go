package image

import "lamplighter/api"

// functions is a set of functions of a valid image.
type functions [api.MaxFuncs]bool

// calls returns the functions that the code of a function calls, ascending.
func calls(m *api.Image, f int) []int {
	var called functions
	from, to := bounds(m, f)
	for _, i := range m.Code[from:to] {
		if i.Op == api.OpCall {
			called[i.A] = true
		}
	}
	var l []int
	for g, is := range called {
		if is {
			l = append(l, g)
		}
	}
	return l
}

// colour says how far a walk along the calls has come with a function.
type colour byte

const (
	white colour = iota // it was not met
	grey                // what it calls is being walked
	black               // all that it calls was walked
)

// walk goes along the calls of an image.
type walk struct {
	m       *api.Image
	colours [api.MaxFuncs]colour
}

// returns reports whether the calls of a function lead back to it, or to one
// on the way to it.
func (w *walk) returns(f int) bool {
	if w.colours[f] != white {
		return w.colours[f] == grey
	}
	w.colours[f] = grey
	for _, g := range calls(w.m, f) {
		if w.returns(g) {
			return true
		}
	}
	w.colours[f] = black
	return false
}

// order puts the smallest function next, again and again, of those of which
// all that they call is there. As calls are not recursive, there always is one.
func order(m *api.Image) []int {
	called := make([][]int, len(m.Funcs))
	for f := range called {
		called[f] = calls(m, f)
	}
	var there functions
	var l []int
	for range called {
		f := next(called, &there)
		there[f] = true
		l = append(l, f)
	}
	return l
}

// next returns the smallest function that is not there, but all that it calls.
func next(called [][]int, there *functions) int {
	for f, l := range called {
		if !there[f] && there.all(l) {
			return f
		}
	}
	return 0
}

// all reports whether all functions of a list are in a set.
func (s *functions) all(l []int) bool {
	for _, f := range l {
		if !s[f] {
			return false
		}
	}
	return true
}
