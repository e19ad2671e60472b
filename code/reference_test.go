package code_test

import (
	"math"
	"regexp"
	"slices"
	"strconv"
	"strings"

	"lamplighter/api"
)

// entry is a line of the chapter's table: the name, what A, B and C are, what
// is popped and pushed, whether it jumps, and whether the next one may follow.
type entry struct {
	op          int
	name        string
	operands    []string
	pops, adds  int
	jumps, next bool
}

// table is the chapter's table.
func table() []entry {
	return []entry{
		{1, "halt", nil, 0, 0, false, false},
		{2, "push", []string{"word"}, 0, 1, false, true},
		{3, "pop", nil, 1, 0, false, true},
		{4, "ld", []string{"number"}, 0, 1, false, true},
		{5, "st", []string{"number", "width"}, 1, 0, false, true},
		{6, "ldx", []string{"number", "count"}, 1, 1, false, true},
		{7, "stx", []string{"number", "count", "width"}, 2, 0, false, true},
		{8, "ldl", []string{"number"}, 0, 1, false, true},
		{9, "stl", []string{"number", "width"}, 1, 0, false, true},
		{10, "in", []string{"number"}, 0, 1, false, true},
		{11, "out", []string{"number"}, 1, 0, false, true},
		{12, "bin", []string{"two"}, 2, 1, false, true},
		{13, "un", []string{"one"}, 1, 1, false, true},
		{14, "cut", []string{"width"}, 1, 1, false, true},
		{15, "jmp", []string{"number"}, 0, 0, true, false},
		{16, "jz", []string{"number"}, 1, 0, true, true},
		{17, "call", []string{"number"}, -1, 1, false, true}, // -1: as its function says
		{18, "ret", nil, 1, 0, false, false},
		{19, "en", []string{"line"}, 0, 0, false, true},
		{20, "dis", []string{"line"}, 0, 0, false, true},
		{21, "lvl", []string{"level"}, 0, 0, false, true},
		{22, "pt", nil, 0, 0, false, true},
		{23, "beg", []string{"number"}, 0, 0, false, true},
		{24, "end", []string{"number"}, 0, 0, false, true},
	}
}

// The texts of the operators, from 1 on.
func signs() []string {
	return []string{"+", "-", "*", "/", "%", "s/", "s%", "&", "|", "^", "<<", ">>", "s>>", "==", "!=", "<", "<=", "s<", "s<="}
}
func names() []string { return []string{"neg", "not", "zero"} }

// good is numbers that an operand may be: the edges, and some between.
func good(operand string) []int {
	switch operand {
	case "number":
		return []int{0, 1, 2, 9, 10, 31, 32, 63, 100, 4095, 99999, 1<<20 - 1, 1 << 20}
	case "count":
		return []int{1, 2, 9, 10, 4096, 1<<20 - 1, 1 << 20}
	case "word":
		return []int{0, 1, 9, 10, 255, 1 << 20, 1<<20 + 1, 1 << 31, 1<<32 - 2, 1<<32 - 1}
	case "width":
		return []int{8, 16, 32}
	case "two":
		return to(19)[1:]
	case "one":
		return to(3)[1:]
	case "line":
		return to(31)
	case "level":
		return to(15)
	}
	return []int{0}
}

// bad is numbers that an operand may not be: the neighbours of the edges, and
// some that a number cut to fewer bits would make good.
func bad(operand string) []int {
	l := []int{math.MinInt, -1 << 32, -1<<32 + 8, -1 << 20, -32, -8, -1, 1 << 32, 1<<32 + 1, 1<<32 + 8, math.MaxInt}
	switch operand {
	case "number":
		return append(l, 1<<20+1, 1<<21, 1<<32-1)
	case "count":
		return append(l, 0, 1<<20+1, 1<<21, 1<<32-1)
	case "word":
		return l
	case "width":
		return append(l, 0, 1, 7, 9, 15, 17, 24, 31, 33, 64, 256+8)
	case "two":
		return append(l, 0, 20, 21, 256+1)
	case "one":
		return append(l, 0, 4, 8, 256+1)
	case "line":
		return append(l, 32, 33, 64, 256+1)
	case "level":
		return append(l, 16, 17, 31, 256+1)
	}
	return append(l, 1, 2, 8)
}

// to is the numbers from 0 to n.
func to(n int) []int {
	var l []int
	for i := range n + 1 {
		l = append(l, i)
	}
	return l
}

// operand is what the n-th number of an entry is.
func (x entry) operand(n int) string {
	if n < len(x.operands) {
		return x.operands[n]
	}
	return "nothing"
}

// with makes instructions of an entry with numbers for A, B and C.
func (x entry) with(numbers [3][]int) []api.Ins {
	var l []api.Ins
	for _, a := range numbers[0] {
		for _, b := range numbers[1] {
			for _, c := range numbers[2] {
				l = append(l, api.Ins{Op: x.op, A: a, B: b, C: c})
			}
		}
	}
	return l
}

// valid is instructions of an entry that are valid.
func (x entry) valid() []api.Ins {
	return x.with([3][]int{good(x.operand(0)), good(x.operand(1)), good(x.operand(2))})
}

// wrong is instructions of an entry with one number that is not good, or three.
func (x entry) wrong() []api.Ins {
	var l []api.Ins
	for i := range 3 {
		numbers := [3][]int{good(x.operand(0)), good(x.operand(1)), good(x.operand(2))}
		numbers[i] = bad(x.operand(i))
		l = append(l, x.with(numbers)...)
	}
	return append(l, x.with([3][]int{bad(x.operand(0)), bad(x.operand(1)), bad(x.operand(2))})...)
}

// noOps is numbers that are no Op; the last ones would be if they were cut.
func noOps() []int {
	return []int{math.MinInt, -1 << 32, -24, -2, -1, 0, 25, 26, 48, 255, 256 + 1, 1<<32 + 1, 1<<32 + 22, math.MaxInt}
}

// invalid is instructions that are not valid.
func invalid() []api.Ins {
	var l []api.Ins
	for _, op := range noOps() {
		l = append(l, api.Ins{Op: op}, api.Ins{Op: op, A: 8}, api.Ins{Op: op, A: 1, B: 1, C: 8})
	}
	for _, x := range table() {
		l = append(l, x.wrong()...)
	}
	return l
}

// text is the text of a valid instruction of an entry.
func (x entry) text(i api.Ins) string {
	numbers := []int{i.A, i.B, i.C}
	words := []string{x.name}
	for n, operand := range x.operands {
		switch operand {
		case "two":
			words = append(words, signs()[numbers[n]-1])
		case "one":
			words = append(words, names()[numbers[n]-1])
		default:
			words = append(words, strconv.Itoa(numbers[n]))
		}
	}
	return strings.Join(words, " ")
}

// decimal is a number without a needless 0 or a sign.
var decimal = regexp.MustCompile(`^(0|[1-9][0-9]{0,9})$`)

// within reports whether a number is in the range of an operand.
func within(operand string, n int) bool {
	switch operand {
	case "number":
		return n <= 1<<20
	case "count":
		return 1 <= n && n <= 1<<20
	case "word":
		return n < 1<<32
	case "width":
		return n == 8 || n == 16 || n == 32
	case "line":
		return n < 32
	}
	return n < 16
}

// parsed is the instruction of a text, and whether there is one.
func parsed(s string) (api.Ins, bool) {
	parts := strings.Split(s, " ")
	at := slices.IndexFunc(table(), func(x entry) bool { return x.name == parts[0] && len(x.operands) == len(parts)-1 })
	if at < 0 {
		return api.Ins{}, false
	}
	var numbers [3]int
	for n, operand := range table()[at].operands {
		part, l := parts[n+1], signs()
		switch operand {
		case "one":
			l = names()
			fallthrough
		case "two":
			numbers[n] = slices.Index(l, part) + 1
			if numbers[n] == 0 {
				return api.Ins{}, false
			}
		default:
			numbers[n], _ = strconv.Atoi(part)
			if !decimal.MatchString(part) || !within(operand, numbers[n]) {
				return api.Ins{}, false
			}
		}
	}
	return api.Ins{Op: at + 1, A: numbers[0], B: numbers[1], C: numbers[2]}, true
}
