package parse_test

import (
	"slices"
	"strconv"
	"strings"
	"testing"

	"lamplighter/api"
	"lamplighter/ast"
	"lamplighter/parse"
)

// allowed checks that a program is allowed, or not valid.
func allowed(t *testing.T, s string, want bool) {
	t.Helper()
	if want {
		if _, f := parse.Parse(s); f != (api.Fault{}) {
			t.Errorf("Parse(%.100q): %+v", s, f)
		}
		return
	}
	fails(t, s, notValid)
}

// allowedStmt does the same with a statement, alone and in a program.
func allowedStmt(t *testing.T, s string, want bool) {
	t.Helper()
	allowed(t, "stack 9; main { "+s+" }", want)
	if want {
		if l, f := parse.Stmts(s); f != (api.Fault{}) || len(l) != 1 {
			t.Errorf("Stmts(%.100q): %+v", s, f)
		}
		return
	}
	failsStmts(t, s, notValid)
}

// TestP71Numbers: numbers at the bounds of each place.
func TestP71Numbers(t *testing.T) {
	for n, want := range map[string]bool{"0": false, "1": true, "0x10000": true, "65536": true, "65537": false, "4294967295": false} {
		allowed(t, "stack "+n+";", want)
	}
	for n, want := range map[string]bool{"0": true, "31": true, "32": false, "255": false, "4294967295": false} {
		allowed(t, "stack 1; on "+n+" prio 1 {}", want)
		allowedStmt(t, "enable "+n+";", want)
		allowedStmt(t, "disable "+n+";", want)
	}
	for n, want := range map[string]bool{"1": true, "15": true, "16": false, "4294967295": false} {
		allowed(t, "stack 1; on 1 prio "+n+" {}", want)
		allowedStmt(t, "level "+n+";", want)
	}
	allowed(t, "stack 1; on 1 prio 0 {}", false)
	allowedStmt(t, "level 0;", true)
}

// TestP71Lengths: lengths and how many values there may be.
func TestP71Lengths(t *testing.T) {
	for n, want := range map[string]bool{"0": false, "0x0": false, "00": false, "1": true, "4096": true, "4097": false, "4294967295": false} {
		allowed(t, "stack 1; u8 x["+n+"];", want)
		allowed(t, "stack 1; u8 y; u8 x["+n+"] = 1;", want)
	}
	values := func(n int) string { return strings.TrimSuffix(strings.Repeat("0,", n), ",") }
	allowed(t, "stack 1; u8 x = 1;", true)
	allowed(t, "stack 1; u8 x = 1, 2;", false)
	for _, n := range []int{1, 2, 3, 4096} {
		allowed(t, "stack 1; u8 x["+strconv.Itoa(n)+"] = "+values(n)+";", true)
		allowed(t, "stack 1; u8 x["+strconv.Itoa(n)+"] = "+values(n+1)+";", false)
	}
	allowed(t, "stack 1; u8 x[0] = 1, 2;", false)
	allowed(t, "stack 1; u8 x = "+values(30000)+";", false)
}

// TestP71Many: 8 parameters and arguments, and 9.
func TestP71Many(t *testing.T) {
	for n, want := range map[int]bool{0: true, 1: true, 8: true, 9: false, 10: false, 1000: false} {
		params := strings.TrimSuffix(strings.Repeat("u8 x,", n), ",")
		args := strings.TrimSuffix(strings.Repeat("1,", n), ",")
		allowed(t, "stack 1; func f("+params+") {}", want)
		allowedStmt(t, "f("+args+");", want)
		allowedStmt(t, "x = f("+args+");", want)
		allowedStmt(t, "while (1) { x = u8(-f("+args+")); }", want)
		if want {
			_, f := parse.Expr("f(" + args + ")")
			if f != (api.Fault{}) {
				t.Errorf("%d Args: %+v", n, f)
			}
		} else {
			failsExpr(t, "f("+args+")", notValid)
		}
	}
}

// balanced is a sum of n numbers, nested as little as possible.
func balanced(n int) string {
	if n == 1 {
		return "1"
	}
	return "(" + balanced(n/2) + "+" + balanced(n-n/2) + ")"
}

// TestP71Size: 4,000 expressions and statements, and 4,001.
func TestP71Size(t *testing.T) {
	head, one := "stack 1; main {", "level 1;"
	for n, want := range map[int]api.Fault{3999: {}, 4000: {}, 4001: tooGreat, 8000: tooGreat} {
		if _, f := parse.Parse(head + strings.Repeat(one, n) + "}"); f != want {
			t.Errorf("%d statements: %+v", n, f)
		}
		if _, f := parse.Parse(head + strings.Repeat(one, n/2) + "} main {" + strings.Repeat(one, n-n/2) + "}"); f != want {
			t.Errorf("%d statements of two functions: %+v", n, f)
		}
		if _, f := parse.Stmts("while (1) {" + strings.Repeat(one, n-2) + "}"); f != want {
			t.Errorf("%d in a statement: %+v", n, f)
		}
		if l, f := parse.Stmts(strings.Repeat(one, n)); f != (api.Fault{}) || len(l) != n {
			t.Errorf("%d statements for themselves: %+v", n, f)
		}
		if n%2 == 1 { // a sum of numbers has an odd number of expressions
			if _, f := parse.Expr(balanced((n + 1) / 2)); f != want {
				t.Errorf("%d expressions: %+v", n, f)
			}
		} else if _, f := parse.Stmts("return " + balanced(n/2) + ";"); f != want {
			t.Errorf("%d in a return: %+v", n, f)
		}
	}
	if _, f := parse.Expr("-" + balanced(2000)); f != (api.Fault{}) {
		t.Error(f)
	}
	failsExpr(t, "--"+balanced(2000), tooGreat)
}

// TestP71Depth: nested 60 deep, and 61; parentheses are not in the tree.
func TestP71Depth(t *testing.T) {
	for _, wraps := range [][2]string{{"-", ""}, {"x[", "]"}, {"f(", ")"}, {"u8(", ")"}, {"1+(", ")"}, {"", "+1"}, {"!(", ")"}} {
		nest := func(n int) string { return strings.Repeat(wraps[0], n-1) + "x" + strings.Repeat(wraps[1], n-1) }
		for n, want := range map[int]api.Fault{59: {}, 60: {}, 61: tooGreat, 62: tooGreat, 9000: tooGreat} {
			if _, f := parse.Expr(nest(n)); f != want {
				t.Errorf("%q %d deep: %+v", wraps, n, f)
			}
			if _, f := parse.Stmts("return " + nest(n-1) + ";"); f != want {
				t.Errorf("%q in a return %d deep: %+v", wraps, n, f)
			}
			if _, f := parse.Parse("stack 1; main { x[" + nest(n-1) + "] = 1; }"); f != want {
				t.Errorf("%q in an Index %d deep: %+v", wraps, n, f)
			}
		}
	}
	for _, wraps := range [][2]string{{"if(1){", "}"}, {"if(1){}else{", "}"}, {"while(1){", "}"}, {"atomic(x){", "}"}} {
		for n, want := range map[int]api.Fault{60: {}, 61: tooGreat, 3000: tooGreat} {
			s := strings.Repeat(wraps[0], n-1) + "level 1;" + strings.Repeat(wraps[1], n-1)
			if _, f := parse.Stmts(s); f != want {
				t.Errorf("%q %d deep: %+v", wraps, n, f)
			}
			if _, f := parse.Parse("stack 1; func f() {" + s + "}"); f != want {
				t.Errorf("%q %d deep: %+v", wraps, n, f)
			}
		}
	}
	for _, n := range []int{1, 60, 61, 32767} {
		givesExpr(t, strings.Repeat("(", n)+"x"+strings.Repeat(")", n), named("x"))
	}
}

// TestP71Deep: sources that are nested far deeper than is allowed, with and
// without errors at their end.
func TestP71Deep(t *testing.T) {
	for _, open := range []string{"(", "-", "!", "x[", "f(", "u8(", "1+(", "1|-("} {
		s := strings.Repeat(open, 65536/len(open))
		failsExpr(t, s, syntax(1, len(s)+1))
		failsExpr(t, s[:len(s)-1]+";", syntax(1, len(s)))
		half := strings.Repeat(open, 60000/len(open)/2)
		tail := ""
		if strings.HasSuffix(open, "[") {
			tail = strings.Repeat("]", 60000/len(open)/2)
		} else if strings.HasSuffix(open, "(") {
			tail = strings.Repeat(")", 60000/len(open)/2)
		}
		if open != "(" {
			failsExpr(t, half+"1"+tail, tooGreat)
		}
		failsExpr(t, half+"1"+tail+")", syntax(1, len(half+tail)+2))
	}
	for _, open := range []string{"if(1){", "if(1){}else{", "while(1){", "atomic(x){"} {
		n := 65000 / (len(open) + 1)
		s := strings.Repeat(open, n)
		failsStmts(t, s, syntax(1, len(s)+1))
		failsStmts(t, s+strings.Repeat("}", n), tooGreat)
		failsStmts(t, s+strings.Repeat("}", n+1), syntax(1, len(s)+n+1))
		fails(t, "stack 1; main {"+s+"9", syntax(1, len(s)+16))
	}
	failsExpr(t, strings.Repeat("1-", 32767)+"1", tooGreat)
}

// TestP71Several: a token that is not allowed comes first, then what is too
// great, then what is not valid; of statements the first one that is wrong
// counts.
func TestP71Several(t *testing.T) {
	deep := strings.Repeat("-", 60) + "1"
	nine := "f(1,2,3,4,5,6,7,8,9)"
	for s, f := range map[string]api.Fault{
		"level 99; x = " + deep + "; ;":          syntax(1, 15+len(deep)+2),
		"level 99; x = " + deep + ";":            notValid,
		"x = " + deep + "; level 99;":            tooGreat,
		"if (" + deep + ") { level 99; }":        tooGreat,
		"if (1) { level 99; x = " + deep + "; }": tooGreat,
		"x = " + nine + " + " + deep + ";":       tooGreat,
		"level 1; level 99; level 1;":            notValid,
		"level 1; x = " + deep + "; level 1;":    tooGreat,
	} {
		failsStmts(t, s, f)
	}
	failsExpr(t, nine+"+"+deep, tooGreat)
	failsExpr(t, nine+"+"+deep+")", syntax(1, len(nine+deep)+2))
	for _, head := range []string{"stack 0;", "stack 1; u8 x[0];", "stack 1; u8 x = 1, 2;", "stack 1; on 99 prio 1 {}", "stack 1; main { level 99; }"} {
		fails(t, head, notValid)
		fails(t, head+" main { x = "+deep+"; }", tooGreat)
		fails(t, head+" main { x = "+deep+"; } 1", syntax(1, len(head+deep)+17))
	}
}

// TestP71Valid: whatever is returned without a fault is valid.
func TestP71Valid(t *testing.T) {
	r := numbers(5)
	small := strings.Fields("0 1 2 8 15 16 31 32 4096 4097 65536 65537 x y")
	for _, p := range programs()[:100] {
		l := strings.Fields(written(&p, &r, false, false))
		for range 20 {
			k := slices.Clone(l)
			at := r.below(len(k))
			if _, e := strconv.Atoi(k[at]); e != nil {
				continue
			}
			k[at] = r.one(small...)
			s := strings.Join(k, " ")
			got, f := parse.Parse(s)
			if f == (api.Fault{}) && ast.Check(got) != api.OK {
				t.Fatalf("%q is %+v", s, got)
			}
			if want := expected(s, "program"); f != want && f != notValid {
				t.Fatalf("%q: %+v; want %+v", s, f, want)
			}
		}
	}
}
