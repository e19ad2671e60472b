package code

import (
	"math"
	"strconv"

	"lamplighter/api"
	"lamplighter/word"
)

// kind is what a number of an instruction stands for.
type kind int

const (
	absent  kind = iota // the Op does not name it
	number              // a cell, local, port, address, function or section
	count               // how many cells
	literal             // a word
	width               // of what is cut
	onTwo               // an operator on two words
	onOne               // an operator on one word
	line                // an interrupt line
	level               // a level
)

// The edges of numbers that no other package tells.
const (
	maxNumber = 1 << 20
	maxLine   = 31
)

// row is what an Op has.
type row struct {
	name    string
	a, b, c kind
	takes   int // how many words it pops; a call pops what its function says
	gives   int // how many words it pushes
	jumps   bool
	stops   bool // the next instruction does not follow
}

// The Ops. The first row, which is empty, is that of no Op.
var rows = []row{
	api.OpHalt: {name: "halt", stops: true},
	api.OpPush: {name: "push", a: literal, gives: 1},
	api.OpPop:  {name: "pop", takes: 1},
	api.OpLd:   {name: "ld", a: number, gives: 1},
	api.OpSt:   {name: "st", a: number, b: width, takes: 1},
	api.OpLdX:  {name: "ldx", a: number, b: count, takes: 1, gives: 1},
	api.OpStX:  {name: "stx", a: number, b: count, c: width, takes: 2},
	api.OpLdL:  {name: "ldl", a: number, gives: 1},
	api.OpStL:  {name: "stl", a: number, b: width, takes: 1},
	api.OpIn:   {name: "in", a: number, gives: 1},
	api.OpOut:  {name: "out", a: number, takes: 1},
	api.OpBin:  {name: "bin", a: onTwo, takes: 2, gives: 1},
	api.OpUn:   {name: "un", a: onOne, takes: 1, gives: 1},
	api.OpCut:  {name: "cut", a: width, takes: 1, gives: 1},
	api.OpJmp:  {name: "jmp", a: number, jumps: true, stops: true},
	api.OpJz:   {name: "jz", a: number, takes: 1, jumps: true},
	api.OpCall: {name: "call", a: number, gives: 1},
	api.OpRet:  {name: "ret", takes: 1, stops: true},
	api.OpEn:   {name: "en", a: line},
	api.OpDis:  {name: "dis", a: line},
	api.OpLvl:  {name: "lvl", a: level},
	api.OpPt:   {name: "pt"},
	api.OpBeg:  {name: "beg", a: number},
	api.OpEnd:  {name: "end", a: number},
}

// rowOf returns the row of an Op, the empty one if there is no such Op.
func rowOf(op int) row {
	if op < 0 || op >= len(rows) {
		return row{}
	}
	return rows[op]
}

// nameOf returns the name of an Op, empty if there is none.
func nameOf(op int) string {
	return rowOf(op).name
}

// kinds returns what A, B and C stand for.
func (r row) kinds() [3]kind {
	return [3]kind{r.a, r.b, r.c}
}

// allows reports whether a number may stand for such a thing.
func (k kind) allows(n int) bool {
	switch k {
	case number:
		return 0 <= n && n <= maxNumber
	case count:
		return 1 <= n && n <= maxNumber
	case literal:
		return 0 <= n && uint64(n) <= math.MaxUint32
	case width:
		_, e := word.Cut(0, n)
		return e == api.OK
	case onTwo:
		return word.Sign(n) != ""
	case onOne:
		return word.Name(n) != ""
	case line:
		return 0 <= n && n <= maxLine
	case level:
		return 0 <= n && n <= api.MaxPrio
	}
	return n == 0
}

// print returns the text of a number that is allowed.
func (k kind) print(n int) string {
	switch k {
	case onTwo:
		return word.Sign(n)
	case onOne:
		return word.Name(n)
	}
	return strconv.Itoa(n)
}

// scan returns the number that a text stands for, and unknown if there is none.
func (k kind) scan(text string) int {
	switch k {
	case onTwo:
		return find(text, word.Sign)
	case onOne:
		return find(text, word.Name)
	}
	n, err := strconv.ParseUint(text, 10, 32)
	if err != nil {
		return unknown
	}
	return int(n)
}

// unknown is what no kind allows, and no Op.
const unknown = -1

// find returns the number that has a name, of those from 1 on that have one,
// and unknown if none has it.
func find(text string, name func(n int) string) int {
	for n := 1; name(n) != ""; n++ {
		if name(n) == text {
			return n
		}
	}
	return unknown
}
