package lines_test

import (
	"math"
	"slices"

	"lamplighter/api"
)

// vec is a vector; its Func is its line, as no two may share that.
func vec(line, prio int) api.Vec {
	return api.Vec{Line: line, Prio: prio, Func: max(line, 0)}
}

// example is the vectors of the chapter's examples.
func example() []api.Vec {
	return []api.Vec{vec(3, 2), vec(5, 4), vec(1, 4)}
}

// many is n vectors on the lines from 0 on, with all priorities in turn.
func many(n int) []api.Vec {
	l := make([]api.Vec, n)
	for i := range l {
		l[i] = vec(i, 1+(i*7)%15)
	}
	return l
}

// numbers is a fixed row of numbers that follow no plain pattern.
type numbers uint64

// below is the next number of the row, made one from 0 to n-1.
func (r *numbers) below(n int) int {
	return int(r.word()) % n
}

// word is the next number of the row.
func (r *numbers) word() uint32 {
	*r = *r*6364136223846793005 + 1442695040888963407
	return uint32(*r >> 33)
}

// mixed is lists of up to 32 valid vectors, some with few priorities, so that
// many of them have the same.
func mixed() [][]api.Vec {
	r := numbers(1)
	all := [][]api.Vec{nil, {}, example(), many(32)}
	for range 60 {
		lines := make([]int, 32)
		for i := range lines {
			lines[i] = i
		}
		for i := range lines {
			j := i + r.below(32-i)
			lines[i], lines[j] = lines[j], lines[i]
		}
		prios := []int{1, 2, 4, 15}[r.below(4)]
		var l []api.Vec
		for _, line := range lines[:r.below(33)] {
			l = append(l, api.Vec{Line: line, Prio: 1 + r.below(prios), Func: r.below(3)})
		}
		all = append(all, l)
	}
	return all
}

// few is all lists of up to three vectors on lines 0, 9 and 31, in every order,
// with priorities 1, 2 and 15.
func few() [][]api.Vec {
	all := [][]api.Vec{nil}
	for from := 0; from < len(all); from++ {
		l := all[from]
		for _, line := range []int{0, 9, 31} {
			if slices.ContainsFunc(l, func(v api.Vec) bool { return v.Line == line }) {
				continue
			}
			for _, prio := range []int{1, 2, 15} {
				all = append(all, append(slices.Clone(l), vec(line, prio)))
			}
		}
	}
	return all
}

// sets is sets of lines: none, all, each line alone, all but each, and others.
func sets() []uint32 {
	l := []uint32{0, math.MaxUint32, 0x2a, 0x55555555, 0xaaaaaaaa, 0x0000ffff, 0xffff0000, 0x80000001}
	for i := range 32 {
		l = append(l, 1<<i, ^uint32(1<<i))
	}
	r := numbers(2)
	for range 40 {
		l = append(l, r.word(), r.word()<<1)
	}
	return l
}

// fewSets is all sets of lines 0, 9 and 31, and one of all the others.
func fewSets() []uint32 {
	l := []uint32{^uint32(1 | 1<<9 | 1<<31)}
	for i := range uint32(8) {
		l = append(l, i&1|(i>>1&1)<<9|(i>>2&1)<<31)
	}
	return l
}

// within is a set as the lines that it has, found by dividing.
func within(set uint32) []int {
	var l []int
	for line := range 32 {
		if set%2 == 1 {
			l = append(l, line)
		}
		set /= 2
	}
	return l
}

// possible is the indexes of the vectors that are pending, enabled, and above
// the level and the active priority.
func possible(pending, enabled uint32, level, active int, l []api.Vec) []int {
	var p []int
	for i, v := range l {
		if slices.Contains(within(pending), v.Line) && slices.Contains(within(enabled), v.Line) && v.Prio > level && v.Prio > active {
			p = append(p, i)
		}
	}
	return p
}

// expected is what is taken of valid vectors: the first of the possible ones,
// sorted by their priorities, and for the same priority by their lines.
func expected(pending, enabled uint32, level, active int, l []api.Vec) (int, bool) {
	p := possible(pending, enabled, level, active, l)
	if len(p) == 0 {
		return 0, false
	}
	slices.SortFunc(p, func(i, j int) int {
		if l[i].Prio != l[j].Prio {
			return l[j].Prio - l[i].Prio
		}
		return l[i].Line - l[j].Line
	})
	return p[0], true
}

// wrong is lists of vectors that are not valid, though at most 32.
func wrong() [][]api.Vec {
	bad := []api.Vec{
		{Line: -1, Prio: 4}, {Line: 32, Prio: 4}, {Line: 33, Prio: 4}, {Line: 63, Prio: 4}, {Line: 64, Prio: 4}, {Line: 1 << 32, Prio: 4},
		{Line: math.MinInt, Prio: 4}, {Line: math.MaxInt, Prio: 4},
		{Line: 7, Prio: 0}, {Line: 7, Prio: -1}, {Line: 7, Prio: 16}, {Line: 7, Prio: math.MinInt}, {Line: 7, Prio: math.MaxInt},
		{Line: 7, Prio: 4, Func: -1}, {Line: 7, Prio: 4, Func: math.MinInt},
		{Line: 3, Prio: 9}, {Line: 5, Prio: 4, Func: 5}, {Line: 1, Prio: 4}, // Lines that the example has
	}
	var all [][]api.Vec
	for _, v := range bad {
		for at := range 4 {
			all = append(all, slices.Insert(example(), at, v))
		}
	}
	for _, v := range bad[:15] {
		all = append(all, []api.Vec{v})
	}
	ends := many(32)
	ends[31].Line = 0
	none := many(32)
	none[31].Line = 32
	return append(all, ends, none)
}
