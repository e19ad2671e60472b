package parse_test

import (
	"slices"
	"strconv"
	"strings"

	"lamplighter/api"
)

// levels is the operators of the chapter, from the weakest to the strongest.
const levels = "| ; ^ ; & ; == != ; < <= > >= ; << >> ; + - ; * / %"

// signOf is the sign of an operator of ExBin.
func signOf(op int) string {
	return map[int]string{
		api.BinAdd: "+", api.BinSub: "-", api.BinMul: "*", api.BinDiv: "/", api.BinRem: "%",
		api.BinAnd: "&", api.BinOr: "|", api.BinXor: "^", api.BinShl: "<<", api.BinShr: ">>",
		api.BinEq: "==", api.BinNe: "!=", api.BinLt: "<", api.BinLe: "<=", api.ExGt: ">", api.ExGe: ">=",
	}[op]
}

// levelOf is the level of an operator of ExBin, by the text of the chapter; 0
// of what is none.
func levelOf(op int) int {
	for i, l := range strings.Split(levels, ";") {
		if sign := signOf(op); sign != "" && slices.Contains(strings.Fields(l), sign) {
			return i + 1
		}
	}
	return 0
}

// gaps is what may be between two tokens, of which the first may be a /.
func gaps() []string {
	return []string{" ", " ", "\n", "\t", "\r", "\r\n", "  \n", "\t//\n", " // x = 1; }\n\n", " \n\n "}
}

// writer writes trees as sources and sets their Lines meanwhile. Between two
// tokens is a blank, or any gap, and there are parentheses that are not needed,
// or not.
type writer struct {
	text   strings.Builder
	line   int
	random *numbers
	free   bool // any gaps
	more   bool // more parentheses than are needed
}

func written(p *api.Program, r *numbers, free, more bool) string {
	w := writer{line: 1, random: r, free: free, more: more}
	w.gap()
	w.program(p)
	return w.text.String()
}

func (w *writer) gap() {
	g := " "
	if w.free {
		g = w.random.one(gaps()...)
	}
	w.line += strings.Count(g, "\n")
	w.text.WriteString(g)
}

// put writes tokens that are separated by blanks.
func (w *writer) put(tokens string) {
	for _, t := range strings.Fields(tokens) {
		w.text.WriteString(t)
		w.gap()
	}
}

func (w *writer) number(n int) {
	w.put(strconv.Itoa(n))
}

func (w *writer) typed(ty int) {
	w.put([]string{"?", "u8", "u16", "u32", "i32"}[ty])
}

// list calls f for each index below n, with commas between.
func (w *writer) list(n int, f func(i int)) {
	for i := range n {
		if i > 0 {
			w.put(",")
		}
		f(i)
	}
}

func (w *writer) program(p *api.Program) {
	w.put("stack " + strconv.Itoa(p.Stack) + " ;")
	for i := range p.Globals {
		w.global(&p.Globals[i])
	}
	for i := range p.Gates {
		g := &p.Gates[i]
		g.Line = w.line
		switch {
		case g.Read && g.Write:
			w.put("port both " + g.Name + " ;")
		case g.Read:
			w.put("port read " + g.Name + " ;")
		default:
			w.put("port write " + g.Name + " ;")
		}
	}
	for i := range p.Funcs {
		w.decl(&p.Funcs[i])
	}
}

func (w *writer) global(g *api.Global) {
	g.Line = w.line
	w.typed(g.Type)
	w.put(g.Name)
	if g.Len > 0 {
		w.put("[ " + strconv.Itoa(g.Len) + " ]")
	}
	if len(g.Init) > 0 {
		w.put("=")
	}
	w.list(len(g.Init), func(i int) { w.number(int(g.Init[i])) })
	w.put(";")
}

func (w *writer) decl(d *api.Decl) {
	d.Line = w.line
	switch d.Kind {
	case api.KindFunc:
		w.put("func " + d.Name + " (")
		w.list(len(d.Params), func(i int) {
			w.typed(d.Params[i].Type)
			w.put(d.Params[i].Name)
		})
		w.put(")")
	case api.KindMain:
		w.put("main")
	case api.KindOn:
		w.put("on " + strconv.Itoa(d.On) + " prio " + strconv.Itoa(d.Prio))
	}
	w.block(d.Body)
}

func (w *writer) block(l []api.Stmt) {
	w.put("{")
	w.stmts(l)
	w.put("}")
}

func (w *writer) stmts(l []api.Stmt) {
	for i := range l {
		w.stmt(&l[i])
	}
}

func (w *writer) stmt(s *api.Stmt) {
	s.Line = w.line
	switch s.Kind {
	case api.StLet:
		w.typed(s.Type)
		w.ends(s.Name+" =", s.Expr[0])
	case api.StSet:
		w.put(s.Name)
		for _, e := range s.Index {
			w.put("[")
			w.expr(e)
			w.put("]")
		}
		w.ends("=", s.Expr[0])
	case api.StCall:
		w.ends("", s.Expr[0])
	case api.StIf:
		w.begins("if", s.Expr[0])
		w.block(s.Then)
		if len(s.Else) > 0 || w.more {
			w.put("else")
			w.block(s.Else)
		}
	case api.StWhile:
		w.begins("while", s.Expr[0])
		w.block(s.Then)
	case api.StReturn:
		w.ends("return", s.Expr[0])
	case api.StAtomic:
		w.put("atomic ( " + strings.Join(s.Names, " , ") + " )")
		w.block(s.Then)
	default:
		w.put([]string{"enable", "disable", "level"}[s.Kind-api.StEnable])
		w.put(strconv.Itoa(s.N) + " ;")
	}
}

// begins writes what is ahead of a block.
func (w *writer) begins(word string, e api.Expr) {
	w.put(word + " (")
	w.expr(e)
	w.put(")")
}

// ends writes what a statement ends with.
func (w *writer) ends(ahead string, e api.Expr) {
	w.put(ahead)
	w.expr(e)
	w.put(";")
}

// expr writes an expression where anything may stand, but a statement that is
// a call has no parentheses around it.
func (w *writer) expr(e api.Expr) {
	switch e.Kind {
	case api.ExNum:
		w.put(strconv.FormatUint(uint64(e.N), 10))
	case api.ExVar:
		w.put(e.Name)
	case api.ExIndex:
		w.put(e.Name + " [")
		w.expr(e.Args[0])
		w.put("]")
	case api.ExCall:
		w.put(e.Name + " (")
		w.list(len(e.Args), func(i int) { w.expr(e.Args[i]) })
		w.put(")")
	case api.ExUn:
		w.put([]string{"?", "-", "~", "!"}[e.Op])
		w.inner(e.Args[0], e.Args[0].Kind == api.ExBin)
	case api.ExBin:
		w.inner(e.Args[0], e.Args[0].Kind == api.ExBin && levelOf(e.Args[0].Op) < levelOf(e.Op))
		w.put(signOf(e.Op))
		w.inner(e.Args[1], e.Args[1].Kind == api.ExBin && levelOf(e.Args[1].Op) <= levelOf(e.Op))
	case api.ExCast:
		w.typed(e.Type)
		w.put("(")
		w.expr(e.Args[0])
		w.put(")")
	}
}

// inner writes an operand, in parentheses if they are needed, or now and then
// if more are asked for.
func (w *writer) inner(e api.Expr, needed bool) {
	if needed || w.more && w.random.below(3) == 0 {
		w.put("(")
		w.inner(e, false)
		w.put(")")
		return
	}
	w.expr(e)
}
