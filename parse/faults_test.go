package parse_test

import (
	"slices"
	"strings"
	"testing"

	"lamplighter/api"
	"lamplighter/lex"
	"lamplighter/parse"
)

// positions compares the faults of a source by a rule with the reference; what
// is not valid for the whole source is another matter.
func positions(t *testing.T, s, rule string) {
	t.Helper()
	var f api.Fault
	switch rule {
	case "program":
		_, f = parse.Parse(s)
	case "stmts":
		_, f = parse.Stmts(s)
	default:
		_, f = parse.Expr(s)
	}
	want := expected(s, rule)
	if f != want && (want != api.Fault{} || f != notValid) {
		t.Fatalf("%s %q: %+v; want %+v", rule, s, f, want)
	}
}

// forms is all forms of the grammar, with all parts.
func forms() []string {
	return []string{
		"u8 x = x ;", "i32 x = 1 + x ;", "x = x ;", "x [ x ] = x ;", "x ( ) ;", "x ( 1 , x , 2 ) ;",
		"if ( x ) { }", "if ( x ) { x = 1 ; } else { x ( ) ; }", "while ( x ) { x = 1 ; }",
		"return x ;", "enable 1 ;", "disable 1 ;", "level 1 ;",
		"atomic ( x ) { }", "atomic ( x , y ) { x = y ; }",
		"return x [ 1 ] ;", "return x ( ) ;", "return x ( 1 , x ) ;", "return u16 ( x ) ;", "return ( x ) ;", "return - x ;",
		"return x * ( - 1 | ~ x ) << ! x [ 2 ] ;",
	}
}

func declarations() []string {
	return []string{
		"u8 x ;", "u16 x = 1 ;", "u32 x [ 2 ] ;", "i32 x [ 2 ] = 1 , 2 ;",
		"port read x ;", "port write x ;", "port both x ;",
		"func f ( ) { }", "func f ( u8 x ) { }", "func f ( u8 x , i32 y , u16 z ) { x = y ; }",
		"main { }", "main { x = 1 ; y ( ) ; }", "on 1 prio 2 { }", "on 1 prio 2 { x = 1 ; }",
	}
}

// pieces is tokens of each kind.
func pieces() []string {
	return append(strings.Fields("stack port read write both func main on prio if else while return enable disable level atomic u8 u16 u32 i32"),
		strings.Fields("<< >> == != <= >= < > = + - * / % & | ^ ~ ! ( ) { } [ ] , ; x 1 0x0")...)
}

// spoiled calls f with a row of tokens with one token less, another one in its
// place, one more ahead of it, the end in its place, and with nothing changed.
func spoiled(row string, f func(string)) {
	l := strings.Fields(row)
	f(row)
	for i := range len(l) + 1 {
		f(strings.Join(l[:i], " "))
		if i < len(l) {
			f(strings.Join(slices.Delete(slices.Clone(l), i, i+1), "  "))
		}
		for _, p := range pieces() {
			f(strings.Join(slices.Insert(slices.Clone(l), i, p), "\n"))
			if i < len(l) {
				f(strings.Join(slices.Replace(slices.Clone(l), i, i+1, p), " "))
			}
		}
	}
}

// TestP71Missing: of each form each token is missing, replaced, or followed by
// the end.
func TestP71Missing(t *testing.T) {
	for _, row := range forms() {
		spoiled(row, func(s string) { positions(t, s, "stmts") })
		spoiled("stack 9 ; main { "+row+" }", func(s string) { positions(t, s, "program") })
		if e, returned := strings.CutPrefix(row, "return "); returned {
			spoiled(strings.TrimSuffix(e, " ;"), func(s string) { positions(t, s, "expr") })
		}
	}
	for _, row := range declarations() {
		spoiled("stack 9 ; "+row, func(s string) { positions(t, s, "program") })
		spoiled("stack 9 ; u8 z ; "+row+" main { }", func(s string) { positions(t, s, "program") })
	}
}

// TestP71Ends: the position after the last byte, behind line ends, blanks and
// comments too.
func TestP71Ends(t *testing.T) {
	for _, row := range forms() {
		l := strings.Fields(row)
		for i := range l {
			for _, tail := range []string{"", " ", "\n", "\r", "\t\t", "\n\n", "\n ", "//", "// x", "//\n", " \n // x\n  ", "//é"} {
				positions(t, strings.Join(l[:i], " ")+tail, "stmts")
			}
		}
	}
	fails(t, "stack 9", syntax(1, 8))
	fails(t, "stack 9\n", syntax(2, 1))
	fails(t, "stack 9 // ;", syntax(1, 13))
	fails(t, "stack 9; main {\n\n  ", syntax(3, 3))
	failsExpr(t, "(1\r", syntax(1, 4))
	failsStmts(t, "x\n=\n", syntax(3, 1))
}

// TestP71Empty: a source without tokens is a list of statements, and nothing
// else.
func TestP71Empty(t *testing.T) {
	for s, f := range map[string]api.Fault{"": syntax(1, 1), "  \t": syntax(1, 4), "\n": syntax(2, 1), "// stack 1;": syntax(1, 12), " // x\n//\n": syntax(3, 1)} {
		fails(t, s, f)
		failsExpr(t, s, f)
		givesStmts(t, s)
	}
}

// TestP71Short: all short rows of tokens.
func TestP71Short(t *testing.T) {
	each := func(words string, n int, f func(string)) {
		l := strings.Fields(words)
		var grow func(s string, n int)
		grow = func(s string, n int) {
			f(s)
			for i := 0; i < len(l) && n > 0; i++ {
				grow(s+" "+l[i], n-1)
			}
		}
		grow("", n)
	}
	each("x 1 - < ( ) [ ] , u8", 4, func(s string) { positions(t, s, "expr") })
	each("x 1 = ; ( ) { } u8 if else while return level atomic", 3, func(s string) { positions(t, s, "stmts") })
	each("x 1 = [ ] , ; ( ) { } u8 port read func main on prio stack", 3, func(s string) { positions(t, "stack 9;"+s, "program") })
	each("stack 1 ; x u8 main", 4, func(s string) { positions(t, s, "program") })
}

// TestP71Random: sources with some tokens spoiled, by the reference.
func TestP71Random(t *testing.T) {
	r := numbers(4)
	for i, p := range programs() {
		if i > 150 {
			break
		}
		l := strings.Fields(written(&p, &r, false, true))
		if len(l) > 400 {
			continue
		}
		for range 6 {
			k := slices.Clone(l)
			for range 1 + r.below(3) {
				at := r.below(len(k))
				switch r.below(4) {
				case 0:
					k = slices.Delete(k, at, at+1)
				case 1:
					k = slices.Insert(k, at, r.one(pieces()...))
				case 2:
					k[at] = r.one(pieces()...)
				default:
					other := r.below(len(k))
					k[at], k[other] = k[other], k[at]
				}
				if len(k) == 0 {
					k = []string{"x"}
				}
			}
			positions(t, strings.Join(k, r.one(" ", "\n", " // x\n")), "program")
		}
	}
}

// TestP71Positions: some positions, told by hand.
func TestP71Positions(t *testing.T) {
	for s, column := range map[string]int{
		"u8 x;": 1, "9": 1, "stack x;": 7, "stack 9 u8 x;": 9, "stack 9; x;": 10, "stack 9; stack 9;": 10, "stack 9; }": 10, "stack 9; ;": 10,
		"stack 9; u8 [3];": 13, "stack 9; u8 x y;": 15, "stack 9; u8 x[];": 15, "stack 9; u8 x[y];": 15, "stack 9; u8 x[-1];": 15,
		"stack 9; u8 x[3;": 16, "stack 9; u8 x = ;": 17, "stack 9; u8 x = -1;": 17, "stack 9; u8 x = 1,;": 19, "stack 9; u8 x = y;": 17, "stack 9; u8 x = 1+1;": 18,
		"stack 9; u8 x, y;": 14, "stack 9; u8 x[1][1];": 17, "stack 9; u8 if;": 13, "stack 9; u8 u8;": 13,
		"stack 9; port x;": 15, "stack 9; port read;": 19, "stack 9; port read write x;": 20, "stack 9; port read x = 1;": 22,
		"stack 9; func (u8 x) {}": 15, "stack 9; func f {}": 17, "stack 9; func f(x) {}": 17, "stack 9; func f(u8) {}": 19, "stack 9; func f(u8 x,) {}": 22, "stack 9; func f(u8 x u8 y) {}": 22, "stack 9; func f();": 18, "stack 9; func u8() {}": 15,
		"stack 9; main;": 14, "stack 9; main() {}": 14, "stack 9; main { main {} }": 17, "stack 9; main {} }": 18, "stack 9; main {} x = 1;": 18,
		"stack 9; on x prio 1 {}": 13, "stack 9; on 1 {}": 15, "stack 9; on 1 prio {}": 20, "stack 9; on 1 prio 1;": 21,
	} {
		fails(t, s, syntax(1, column))
	}
	for s, column := range map[string]int{
		";": 1, "}": 1, "{}": 1, "1 = x;": 1, "x;": 2, "x + 1;": 3, "x = 1": 6, "x = 1 y = 2;": 7, "x == 1;": 3, "(x) = 1;": 1, "-x = 1;": 1,
		"x[1];": 5, "x[] = 1;": 3, "x[1] = ;": 8, "x[1][1] = 1;": 5, "x(": 3, "x(,);": 3, "x(1,);": 5, "x(1 2);": 5, "x() + 1;": 5, "x() = 1;": 5, "x()": 4,
		"u8 = 1;": 4, "u8 x;": 5, "u8 x[1] = 1;": 5, "u8(x) = 1;": 3, "u8 x = 1, 2;": 9,
		"if x {}": 4, "if () {}": 5, "if (x) y = 1;": 8, "if (x {}": 7, "if (x) {} else if (y) {}": 16, "if (x) {} else": 15, "else {}": 1, "if (x) {} else {} else {}": 19,
		"while {}": 7, "while (1);": 10, "while (1) {": 12, "return;": 7, "return 1": 9, "return if;": 8,
		"enable x;": 8, "enable -1;": 8, "enable 1 + 1;": 10, "disable;": 8, "level (1);": 7, "level 1": 8,
		"atomic {}": 8, "atomic () {}": 9, "atomic (1) {}": 9, "atomic (x,) {}": 11, "atomic (x[1]) {}": 10, "atomic (x);": 11, "atomic (x y) {}": 11, "atomic (u8) {}": 9,
		"stack 9;": 1, "port read x;": 1, "func f() {}": 1, "main {}": 1, "on 1 prio 1 {}": 1, "prio 1;": 1, "read = 1;": 1,
	} {
		failsStmts(t, s, syntax(1, column))
	}
	for s, column := range map[string]int{
		"1 2": 3, "1;": 2, "x = 1": 3, "x)": 2, "(x": 3, "()": 2, "x[": 3, "x[]": 3, "x[1": 4, "x(1": 4, "x(1,": 5, "x(,1)": 3, "x()()": 4, "x[1][2]": 5, "x()[1]": 4, "x(1)(": 5,
		"u8": 3, "u8 x": 4, "u8()": 4, "u8(1": 5, "u8(1,2)": 5, "u8[1]": 3, "-": 2, "!": 2, "+1": 1, "*x": 1, "1 + + 1": 5, "1 <": 4, "1 < = 2": 5, "1 - ": 5, "a ! b": 3, "a ~b": 3, "1x(": 1,
		"if": 1, "main": 1, "x if": 3, "1,2": 2, "{x}": 1, "]": 1, "1 1": 3, "1(2)": 2, "1[2]": 2, "(x)(y)": 4, "(x)[y]": 4, "u8 (1)(2)": 7, "x y(": 3, "&x": 1, "== 1": 1,
	} {
		if s == "1x(" {
			failsExpr(t, s, api.Fault{Err: api.ErrText, Line: 1, Column: column})
			continue
		}
		failsExpr(t, s, syntax(1, column))
	}
}

// TestP71Lex: the faults of lex.All come first, wherever they are.
func TestP71Lex(t *testing.T) {
	for _, s := range []string{"$", "x = 1; é", "; ; ; 0x", "1 +\n+ 2 4294967296", "stack 9; u8 x = 1A;", "((((\n  .", "}\x00", strings.Repeat("(", 65536) + "(", strings.Repeat(" ", 65537), strings.Repeat("$", 65537)} {
		_, f := lex.All(s)
		if f.Err == api.OK {
			t.Errorf("%.40q has no fault", s)
		}
		fails(t, s, f)
		failsExpr(t, s, f)
		failsStmts(t, s, f)
	}
}

// TestP71Keywords: no keyword is a name.
func TestP71Keywords(t *testing.T) {
	for _, k := range pieces()[:21] {
		for _, s := range []string{"? = 1;", "?[1] = 1;", "?();", "u8 ? = 1;", "atomic (?) {}", "atomic (x, ?) {}", "x = ?;", "x = ?[1];", "x = ?();", "x = y(?);"} {
			if f := expected(strings.ReplaceAll(s, "?", k), "stmts"); f != (api.Fault{}) {
				failsStmts(t, strings.ReplaceAll(s, "?", k), f)
			} else if k != "return" && k != "u8" && k != "u16" && k != "u32" && k != "i32" {
				t.Errorf("%q of %q is allowed", k, s)
			}
		}
		for _, s := range []string{"u8 ?;", "port read ?;", "func ?() {}", "func f(u8 ?) {}"} {
			fails(t, "stack 1; "+strings.ReplaceAll(s, "?", k), syntax(1, 10+strings.Index(s, "?")))
		}
	}
}
