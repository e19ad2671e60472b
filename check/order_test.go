package check_test

import (
	"slices"
	"strings"
	"testing"

	"lamplighter/api"
	"lamplighter/check"
)

// broken is some lines of a source that break one sentence of the chapter. The
// line of the fault has a ! ahead of it; at each ? is a number of its own.
type broken struct {
	rank int // what counts first
	err  api.Errno
	text string
}

// everyBroken is each sentence, broken in several ways. Names are checked as
// the program is printed: globals, ports, functions.
func everyBroken() []broken {
	l := []broken{
		{10, api.ErrThere, "u8 gg?;¶!i32 gg?[3];"},
		{11, api.ErrThere, "u8 pp?;¶!port read pp?;"},
		{11, api.ErrThere, "port read pp?;¶!port write pp?;"},
		{12, api.ErrThere, "u8 ff?;¶!func ff?() { }"},
		{12, api.ErrThere, "port both ff?;¶!func ff?() { }"},
		{12, api.ErrThere, "func ff?() { }¶func hh?() { }¶!func ff?(u8 x) { }"},
		{20, api.ErrThere, "!main { }"},
		{30, api.ErrThere, "on 1? prio 1 { }¶!on 1? prio 2 { }"},
		{50, api.ErrThere, "!func aa?(u8 x, u8 y, i32 x) { }"},
		{50, api.ErrType, "u8 ss?; func aa?() { atomic (ss?) {¶!return 1;¶} }"},
		{50, api.ErrType, "u8 ss?; func aa?() { atomic (ss?) {¶!atomic (ss?) {¶} } }"},
		{60, api.ErrLoop, "!func rr?() {¶rr?();¶}"},
		{60, api.ErrLoop, "!func rr?() {¶qq?(); } func qq?() {¶rr?();¶}"},
	}
	for _, x := range []broken{
		{0, api.ErrName, "no = 1;"}, {0, api.ErrName, "no[1] = 1;"}, {0, api.ErrName, "x = no;"}, {0, api.ErrName, "return no[1];"},
		{0, api.ErrName, "no(1);"}, {0, api.ErrName, "atomic (no) { }"}, {0, api.ErrName, "if (x + no) { }"},
		{0, api.ErrType, "x[1] = 1;"}, {0, api.ErrType, "vv? = 1;"}, {0, api.ErrType, "return vv? + x;"}, {0, api.ErrType, "aa?();"}, {0, api.ErrType, "aa?(1, 2);"}, {0, api.ErrType, "while (x[0]) { }"},
		{0, api.ErrThere, "u8 x = 1;"}, {0, api.ErrThere, "u8 y = 1;"},
	} {
		l = append(l, broken{50, x.err, "u8 vv?[2]; func aa?(u8 x) { u8 y = 2;¶!" + x.text + "¶}"})
		l = append(l, broken{50, x.err, "func aa?(u8 x) { u8 y = 2; if (x) { } else {¶while (1) {¶!" + x.text + "¶} } } u8 vv?[2];"})
	}
	return l
}

// source is some broken lines behind a main, and the fault of each.
func source(l ...broken) (string, []api.Fault) {
	text := "stack 9;¶main { }¶"
	var f []api.Fault
	for i, x := range l {
		for line := range strings.SplitSeq(replaced(x.text, string(rune('0'+i))), "¶") {
			at, is := strings.CutPrefix(line, "!")
			if is {
				f = append(f, api.Fault{Err: x.err, Line: 1 + strings.Count(text, "¶")})
			}
			text += at + "¶"
		}
	}
	return text, f
}

// TestP91Alone: each sentence broken alone.
func TestP91Alone(t *testing.T) {
	for _, x := range everyBroken() {
		s, f := source(x)
		finds(t, s, program(t, s), f[0])
		s, f = source(broken{text: "u8 fine; func good() { fine = 1; }"}, x)
		finds(t, s, program(t, s), f[0])
	}
}

// TestP91Two: two sentences broken at once, or one twice, in both orders: the
// first one counts, within the group that counts first.
func TestP91Two(t *testing.T) {
	l := everyBroken()
	for _, x := range l {
		for _, y := range l {
			s, f := source(x, y)
			want := f[0]
			if y.rank < x.rank {
				want = f[1]
			}
			finds(t, s, program(t, s), want)
		}
	}
}

// TestP91Without: without a main, and with too much of something, beside each
// other violation.
func TestP91Without(t *testing.T) {
	for _, x := range everyBroken() {
		s, f := source(x)
		p := program(t, s)
		long := copied(p)
		long.Globals = append(long.Globals, api.Global{Name: "long", Type: 1, Len: 4096}, api.Global{Name: "more", Type: 1})
		want := f[0]
		if x.rank > 40 {
			want = api.Fault{Err: api.ErrLong}
		}
		finds(t, "too long: "+s, long, want)
		p.Funcs = slices.DeleteFunc(p.Funcs, func(d api.Decl) bool { return d.Kind == api.KindMain })
		want = f[0]
		if x.rank > 20 {
			want = api.Fault{Err: api.ErrNone}
		}
		if x.rank != 20 {
			finds(t, "without main: "+s, p, want)
		}
		long.Funcs = p.Funcs
		if x.rank > 20 {
			finds(t, "without main and too long: "+s, long, api.Fault{Err: api.ErrNone})
		}
	}
}

// TestP91Three: three sentences broken at once.
func TestP91Three(t *testing.T) {
	l := everyBroken()
	r := numbers(3)
	for range 3000 {
		some := []broken{among(&r, l), among(&r, l), among(&r, l)}
		s, f := source(some...)
		best := 0
		for i, x := range some {
			if x.rank < some[best].rank {
				best = i
			}
		}
		finds(t, s, program(t, s), f[best])
	}
}

// TestP91Statement: two things of one statement are wrong.
func TestP91Statement(t *testing.T) {
	for form, want := range map[string]api.Errno{
		// The index ahead of the Expr, both ahead of the name.
		"no[ul] = 1;": api.ErrType, "no[1] = ul;": api.ErrType, "no = ul;": api.ErrType, "u[no] = 1;": api.ErrName, "u[1] = no;": api.ErrName, "ul = no;": api.ErrName,
		"ul[no] = ul;": api.ErrName, "ul[ul] = no;": api.ErrType, "il[f(1)] = no;": api.ErrType, "il[no] = f(1);": api.ErrName, "no[no] = ul;": api.ErrName, "no[u] = u[1];": api.ErrType,
		// Args ahead of what has them, and from the left.
		"u = f(no);": api.ErrName, "u = no(ul);": api.ErrType, "u = u[no];": api.ErrName, "u = no[ul];": api.ErrType, "u = no + ul;": api.ErrName, "u = ul + no;": api.ErrType,
		"f(no);": api.ErrName, "no(f(1));": api.ErrType, "no(f(no));": api.ErrName, "g(no, ul);": api.ErrName, "g(ul, no);": api.ErrType, "g(u, ul, no);": api.ErrType, "g(u, no, ul);": api.ErrName,
		"u = (ul + 1) * no;": api.ErrType, "u = -no + u8(ul);": api.ErrName, "u = il[no] + ul;": api.ErrName, "u = p[1] + no;": api.ErrType, "u = no(no(ul));": api.ErrType,
		// The Expr of a let ahead of its name.
		"u8 x = no;": api.ErrName, "u8 x = ul;": api.ErrType, "u8 x = x[1];": api.ErrType, "u8 x = x;": api.ErrThere, "u8 ul = ul;": api.ErrType, "u8 no = no;": api.ErrName,
		// A statement ahead of the statements in it.
		"if (no) { ul = 1; }": api.ErrName, "if (ul) { no = 1; }": api.ErrType, "while (no) { u8 x = 1; }": api.ErrName, "while (ul) { u8 x = no; }": api.ErrType, "atomic (no) { return 1; }": api.ErrName, "atomic (u) { return no; }": api.ErrType,
		"if (1) { no = 1; } else { ul = 1; }": api.ErrName, "if (1) { ul = 1; } else { no = 1; }": api.ErrType, "if (1) { } else { u8 x = 1; ul = 1; }": api.ErrThere,
		// In a section: before its names.
		"atomic (u) { atomic (no) { } }": api.ErrType, "atomic (u) { u8 x = 1; return 1; }": api.ErrThere, "atomic (u) { no = 1; atomic (u) { } }": api.ErrName,
		"return no + ul;": api.ErrName, "return ul + no;": api.ErrType,
	} {
		s := "stack 9; u32 u; u32 ul[4]; i32 il[3]; port both p; func f() { } func g(u8 x) { } main { u8 x = 1;¶" + form + "¶}"
		finds(t, s, program(t, s), api.Fault{Err: want, Line: 2})
	}
}

// TestP91Lines: faults are where the Lines say, whatever these are; the order is
// that of the tree.
func TestP91Lines(t *testing.T) {
	p := with(set("u", num(1)), when(num(1), []api.Stmt{set("no", num(1))}, nil), set("ul", num(1)))
	p.Funcs[0].Body[1].Then[0].Line, p.Funcs[0].Body[2].Line = 500, 3
	finds(t, "a later line first", p, api.Fault{Err: api.ErrName, Line: 500})
	p.Funcs[0].Body[1].Then[0].Line = 0
	finds(t, "line 0", p, api.Fault{Err: api.ErrName})
	p = with()
	p.Funcs = append(p.Funcs, p.Funcs[1], p.Funcs[2], p.Funcs[0])
	p.Funcs[3].Line, p.Funcs[4].Line, p.Funcs[5].Line = 70, 6, 5
	finds(t, "functions", p, api.Fault{Err: api.ErrThere, Line: 70})
	p.Funcs[3].Name, p.Funcs[4].Name = "f2", "g2"
	finds(t, "main", p, api.Fault{Err: api.ErrThere, Line: 5})
	r := numbers(9)
	for range 300 {
		p := r.muddled()
		for i := range p.Funcs {
			p.Funcs[i].Line = r.below(100)
			for j := range p.Funcs[i].Body {
				p.Funcs[i].Body[j].Line = r.below(100)
			}
		}
		finds(t, "any lines", p, expectedFault(p))
	}
}

// TestP91Muddled: programs with wrong names in many places.
func TestP91Muddled(t *testing.T) {
	r := numbers(2)
	count := map[api.Errno]int{}
	for range 4000 {
		p := r.muddled()
		if r.below(4) == 0 {
			p = r.tangled()
		}
		f := expectedFault(p)
		count[f.Err]++
		finds(t, "a muddled program", p, f)
	}
	for _, e := range []api.Errno{api.OK, api.ErrThere, api.ErrName, api.ErrType, api.ErrLoop} {
		if count[e] < 30 {
			t.Errorf("%v", count)
		}
	}
}

// TestP91Varied: one thing of a tree is other than in a correct program.
func TestP91Varied(t *testing.T) {
	count := map[api.Errno]int{}
	r := numbers(11)
	l := []api.Program{firmware(), with(everyStatement()...)}
	for range 5 {
		l = append(l, r.program())
	}
	for _, p := range l {
		vary(&p, []string{"", "a", "b", "c", "lit", "hours", "by", "n", "dark", "dim", "idle", "half", "u", "il", "g", "local2"}, func(way string) {
			f := expectedFault(p)
			count[f.Err]++
			if got := check.Check(p); got != f {
				t.Errorf("%s: %+v, want %+v", way, got, f)
			}
		})
	}
	for _, e := range []api.Errno{api.OK, api.ErrArg, api.ErrNone, api.ErrThere, api.ErrName, api.ErrType} {
		if count[e] < 5 {
			t.Errorf("%v", count)
		}
	}
}
