package lines_test

import (
	"math"
	"slices"
	"testing"

	"lamplighter/api"
	"lamplighter/lines"
)

// TestP21CheckValid: what the terms allow is valid, up to the edges.
func TestP21CheckValid(t *testing.T) {
	valid := append(mixed(), few()...)
	valid = append(valid,
		[]api.Vec{{Line: 0, Prio: 1, Func: 0}},
		[]api.Vec{{Line: 31, Prio: 15, Func: math.MaxInt}},
		[]api.Vec{{Line: 31, Prio: 3, Func: 2}, {Line: 0, Prio: 3, Func: 2}, {Line: 30, Prio: 3, Func: 2}},
		many(31),
	)
	for _, l := range valid {
		if e := lines.Check(l); e != api.OK {
			t.Errorf("Check(%v): error %d", l, e)
		}
	}
}

// TestP21CheckWrong: a line, a priority or a function that does not exist, or
// a line that another vector has, wherever it stands.
func TestP21CheckWrong(t *testing.T) {
	for _, l := range wrong() {
		if e := lines.Check(l); e != api.ErrArg {
			t.Errorf("Check(%v): error %d, want ErrArg", l, e)
		}
	}
}

// TestP21CheckLong: more than 32 are too many, ahead of everything else.
func TestP21CheckLong(t *testing.T) {
	if e := lines.Check(many(32)); e != api.OK {
		t.Errorf("32 vectors: error %d", e)
	}
	for _, l := range [][]api.Vec{
		many(33),
		append(many(32), vec(0, 1)),
		append([]api.Vec{{Line: -1, Prio: 99, Func: -1}}, many(32)...),
		make([]api.Vec, 33),
		make([]api.Vec, 1000),
	} {
		if e := lines.Check(l); e != api.ErrLong {
			t.Errorf("%d vectors: error %d, want ErrLong", len(l), e)
		}
	}
}

// TestP21Take tells what is taken in the chapter's examples, and beside them.
func TestP21Take(t *testing.T) {
	all := uint32(math.MaxUint32)
	for _, x := range []struct {
		pending, enabled uint32
		level, active    int
		l                []api.Vec
		want             int
		ok               bool
	}{
		{0x2a, 0x2a, 0, 0, example(), 2, true},
		{0x2a, 0x2a, 0, 4, example(), 0, false},
		{0x2a, 0x2a, 3, 2, example(), 2, true},
		{all, all, 0, 0, example(), 2, true},
		{0x28, 0x2a, 0, 0, example(), 1, true},
		{0x2a, 0x28, 0, 0, example(), 1, true},
		{0x08, 0x2a, 0, 0, example(), 0, true},
		{0x2a, 0x08, 1, 1, example(), 0, true},
		{0x2a, 0x08, 2, 0, example(), 0, false},
		{0x2a, 0x08, 0, 2, example(), 0, false},
		{0x2a, 0x2a, 4, 0, example(), 0, false},
		{0x2a, 0x2a, 2, 3, example(), 2, true},
		{0x22, 0x08, 0, 0, example(), 0, false},
		{0x2a, 0, 0, 0, example(), 0, false},
		{0, 0x2a, 0, 0, example(), 0, false},
		{^uint32(0x2a), all, 0, 0, example(), 0, false},
		{all, all, 0, 0, nil, 0, false},
		{all, all, 0, 0, []api.Vec{}, 0, false},
		{1, 1, 0, 0, []api.Vec{vec(0, 1)}, 0, true},
		{1, 1, 1, 0, []api.Vec{vec(0, 1)}, 0, false},
		{1, 1, 0, 1, []api.Vec{vec(0, 1)}, 0, false},
		{1 << 31, 1 << 31, 14, 14, []api.Vec{vec(31, 15)}, 0, true},
		{1 << 31, 1 << 31, 15, 0, []api.Vec{vec(31, 15)}, 0, false},
		{1 << 31, 1 << 31, 0, 15, []api.Vec{vec(31, 15)}, 0, false},
		{all, all, 0, 0, []api.Vec{vec(31, 15), vec(0, 15)}, 1, true},
		{all, all, 0, 0, []api.Vec{vec(0, 15), vec(31, 15)}, 0, true},
		{all, all, 0, 0, []api.Vec{vec(0, 14), vec(31, 15)}, 1, true},
		{all, all, 0, 0, []api.Vec{vec(9, 5), vec(8, 5), vec(7, 5), vec(6, 4)}, 2, true},
		{all, all, 0, 0, many(32), 2, true},
	} {
		if got, ok := lines.Take(x.pending, x.enabled, x.level, x.active, x.l); got != x.want || ok != x.ok {
			t.Errorf("Take(%#x, %#x, %d, %d, %v) = %d, %v; want %d, %v", x.pending, x.enabled, x.level, x.active, x.l, got, ok, x.want, x.ok)
		}
	}
}

// sameTaken compares what is taken with the reference.
func sameTaken(t *testing.T, pending, enabled uint32, level, active int, l []api.Vec) {
	t.Helper()
	got, ok := lines.Take(pending, enabled, level, active, l)
	if want, is := expected(pending, enabled, level, active, l); got != want || ok != is {
		t.Fatalf("Take(%#x, %#x, %d, %d, %v) = %d, %v; want %d, %v", pending, enabled, level, active, l, got, ok, want, is)
	}
}

// TestP21TakeFew compares all lists of few vectors with the reference, with
// all sets and at all levels that matter.
func TestP21TakeFew(t *testing.T) {
	for _, l := range few() {
		for _, pending := range fewSets() {
			for _, enabled := range fewSets() {
				for _, level := range []int{0, 1, 2, 15} {
					for _, active := range []int{0, 1, 2, 14} {
						sameTaken(t, pending, enabled, level, active, l)
					}
				}
			}
		}
	}
}

// TestP21TakeMixed compares long lists with the reference, at every level and
// active priority.
func TestP21TakeMixed(t *testing.T) {
	r := numbers(3)
	for _, l := range mixed() {
		for level := range 16 {
			for active := range 16 {
				sameTaken(t, r.word()<<1, r.word()|1<<31, level, active, l)
			}
		}
		sameTaken(t, math.MaxUint32, math.MaxUint32, 0, 0, l)
	}
}

// TestP21TakeBeyond: nothing is above a level or a priority beyond the
// greatest, and one below 0 keeps nothing away.
func TestP21TakeBeyond(t *testing.T) {
	for _, l := range [][]api.Vec{example(), many(32), {vec(31, 15)}} {
		for _, n := range []int{math.MinInt, -1, 16, math.MaxInt} {
			sameTaken(t, 0x2a, math.MaxUint32, n, 0, l)
			sameTaken(t, 0x2a, math.MaxUint32, 0, n, l)
			sameTaken(t, math.MaxUint32, math.MaxUint32, n, n, l)
		}
	}
}

// TestP21TakeWrong: of vectors that are not valid none is taken, although
// others in the list would be.
func TestP21TakeWrong(t *testing.T) {
	for _, l := range append(wrong(), many(33), append(many(32), vec(0, 1))) {
		if got, ok := lines.Take(math.MaxUint32, math.MaxUint32, 0, 0, l); got != 0 || ok {
			t.Errorf("Take of %v = %d, %v; want none", l, got, ok)
		}
	}
}

// TestP21Find: the first vector with a Line, whatever else it has.
func TestP21Find(t *testing.T) {
	twice := []api.Vec{vec(4, 1), vec(7, 2), vec(4, 15), vec(7, 15)}
	for _, x := range []struct {
		l    []api.Vec
		line int
		want int
		ok   bool
	}{
		{example(), 3, 0, true}, {example(), 5, 1, true}, {example(), 1, 2, true},
		{example(), 0, 0, false}, {example(), 2, 0, false}, {example(), 4, 0, false},
		{example(), 31, 0, false}, {example(), 32, 0, false}, {example(), -1, 0, false},
		{example(), math.MinInt, 0, false}, {example(), math.MaxInt, 0, false}, {example(), 1<<32 + 3, 0, false},
		{many(32), 0, 0, true}, {many(32), 31, 31, true}, {many(32), 32, 0, false},
		{twice, 4, 0, true}, {twice, 7, 1, true},
		{append(many(33), vec(40, 1)), 40, 33, true},
		{[]api.Vec{{Line: 6, Prio: 99, Func: -1}}, 6, 0, true},
		{nil, 0, 0, false}, {[]api.Vec{}, 0, 0, false},
	} {
		if got, ok := lines.Find(x.l, x.line); got != x.want || ok != x.ok {
			t.Errorf("Find(%v, %d) = %d, %v; want %d, %v", x.l, x.line, got, ok, x.want, x.ok)
		}
	}
}

// TestP21Kept: the vectors that are handed in stay as they are, also what lies
// beyond them in their memory.
func TestP21Kept(t *testing.T) {
	for _, l := range append(wrong(), mixed()...) {
		longer := append(slices.Clone(l), vec(5, 15), vec(-9, 99))
		before := slices.Clone(longer)
		part := longer[:len(l)]
		e := lines.Check(part)
		at, ok := lines.Take(math.MaxUint32, math.MaxUint32, 0, 0, part)
		lines.Find(part, 5)
		if !slices.Equal(longer, before) {
			t.Fatalf("%v became %v", before, longer)
		}
		if e != lines.Check(slices.Clone(l)) {
			t.Errorf("Check(%v): error %d", l, e)
		}
		if i, is := lines.Take(math.MaxUint32, math.MaxUint32, 0, 0, slices.Clone(l)); i != at || is != ok {
			t.Errorf("Take of %v = %d, %v; alone %d, %v", l, at, ok, i, is)
		}
	}
}

// absent is lines that do not exist.
func absent() []int {
	return []int{math.MinInt, -1 << 32, -64, -33, -32, -31, -1, 32, 33, 63, 64, 1 << 32, 1<<32 + 5, math.MaxInt}
}

// TestP22Of: the bit of a line is 1 shifted left by it; a line more than once
// is in the set once.
func TestP22Of(t *testing.T) {
	for _, x := range []struct {
		lines []int
		want  uint32
	}{
		{nil, 0}, {[]int{}, 0}, {[]int{0}, 1}, {[]int{31}, 0x80000000}, {[]int{31, 0}, 0x80000001},
		{[]int{1, 3, 5}, 0x2a}, {[]int{5, 1, 3}, 0x2a}, {[]int{3, 3, 1, 5, 3, 1}, 0x2a}, {[]int{4, 4}, 0x10},
	} {
		if got, e := lines.Of(x.lines...); got != x.want || e != api.OK {
			t.Errorf("Of(%v) = %#x, %d; want %#x", x.lines, got, e, x.want)
		}
	}
	for line := range 32 {
		if got, e := lines.Of(line); got != uint32(math.Pow(2, float64(line))) || e != api.OK {
			t.Errorf("Of(%d) = %#x, %d", line, got, e)
		}
	}
}

// TestP22OfAbsent: a line that does not exist leaves no set, wherever it stands.
func TestP22OfAbsent(t *testing.T) {
	for _, line := range absent() {
		for _, l := range [][]int{{line}, {line, 3}, {3, line}, {0, line, 31}} {
			if got, e := lines.Of(l...); got != 0 || e != api.ErrArg {
				t.Errorf("Of(%v) = %#x, %d; want 0, ErrArg", l, got, e)
			}
		}
	}
}

// TestP22List: the lines of a set, ascending, and their number.
func TestP22List(t *testing.T) {
	all := make([]int, 32)
	for i := range all {
		all[i] = i
	}
	for _, x := range []struct {
		set  uint32
		want []int
	}{
		{0, nil}, {1, []int{0}}, {1 << 31, []int{31}}, {0x80000001, []int{0, 31}},
		{0x2a, []int{1, 3, 5}}, {0xf0, []int{4, 5, 6, 7}}, {math.MaxUint32, all},
	} {
		if got := lines.List(x.set); !slices.Equal(got, x.want) {
			t.Errorf("List(%#x) = %v, want %v", x.set, got, x.want)
		}
		if got := lines.Count(x.set); got != len(x.want) {
			t.Errorf("Count(%#x) = %d, want %d", x.set, got, len(x.want))
		}
	}
}

// TestP22Has tells lines that are in a set, and others; one that does not
// exist is in none.
func TestP22Has(t *testing.T) {
	for _, x := range []struct {
		set  uint32
		line int
		want bool
	}{
		{0x2a, 1, true}, {0x2a, 3, true}, {0x2a, 5, true}, {0x2a, 0, false}, {0x2a, 2, false}, {0x2a, 6, false},
		{1, 0, true}, {0xfffffffe, 0, false}, {1 << 31, 31, true}, {1<<31 - 1, 31, false},
	} {
		if got := lines.Has(x.set, x.line); got != x.want {
			t.Errorf("Has(%#x, %d) = %v", x.set, x.line, got)
		}
	}
	for _, set := range sets() {
		for _, line := range absent() {
			if lines.Has(set, line) {
				t.Errorf("Has(%#x, %d), which does not exist", set, line)
			}
		}
	}
}

// TestP22Sets: a set, its lines, their number, and each line agree.
func TestP22Sets(t *testing.T) {
	for _, set := range sets() {
		want := within(set)
		if got := lines.List(set); !slices.Equal(got, want) {
			t.Errorf("List(%#x) = %v, want %v", set, got, want)
		}
		if got := lines.Count(set); got != len(want) {
			t.Errorf("Count(%#x) = %d, want %d", set, got, len(want))
		}
		for line := range 32 {
			if lines.Has(set, line) != slices.Contains(want, line) {
				t.Errorf("Has(%#x, %d) = %v", set, line, lines.Has(set, line))
			}
		}
		slices.Reverse(want)
		if got, e := lines.Of(append(want, want...)...); got != set || e != api.OK {
			t.Errorf("Of the lines of %#x = %#x, %d", set, got, e)
		}
	}
}

// TestP22Own: lists are new memory, and the lines handed in stay as they are.
func TestP22Own(t *testing.T) {
	for _, set := range sets() {
		first, second := lines.List(set), lines.List(set)
		want := slices.Clone(second)
		first = first[:cap(first)]
		for i := range first {
			first[i] = -7
		}
		if !slices.Equal(second, want) || !slices.Equal(lines.List(set), want) {
			t.Fatalf("the lists of %#x share memory", set)
		}
		longer := append(slices.Clone(want), 5, 99)
		before := slices.Clone(longer)
		if got, e := lines.Of(longer[:len(want)]...); got != set || e != api.OK || !slices.Equal(longer, before) {
			t.Errorf("Of(%v) = %#x, %d; the lines became %v", want, got, e, longer)
		}
	}
}
