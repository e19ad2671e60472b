package lines

import (
	"math/bits"

	"lamplighter/api"
)

// The lines are those below lineEnd: a set has a bit for each.
const lineEnd = 32

// exists reports whether there is such a line.
func exists(line int) bool {
	return 0 <= line && line < lineEnd
}

// bit is the set of one line, which exists.
func bit(line int) uint32 {
	return 1 << line
}

// lowest is the smallest line of a set that has one.
func lowest(set uint32) int {
	return bits.TrailingZeros32(set)
}

// rest is a set without its smallest line.
func rest(set uint32) uint32 {
	return set & (set - 1)
}

// valid reports whether a vector is valid, apart from the others.
func valid(v api.Vec) bool {
	return exists(v.Line) && 1 <= v.Prio && v.Prio <= api.MaxPrio && v.Func >= 0
}

// before reports whether a vector is taken rather than another one.
func before(v, w api.Vec) bool {
	return v.Prio > w.Prio || v.Prio == w.Prio && v.Line < w.Line
}
