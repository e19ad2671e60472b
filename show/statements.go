package show

import (
	"strconv"

	"lamplighter/api"
)

// stmt writes a statement on lines of its own.
func (w *writer) stmt(s api.Stmt) {
	w.begin()
	switch s.Kind {
	case api.StIf, api.StWhile, api.StAtomic:
		w.head(s)
		w.block(s.Then)
		w.otherwise(s.Else)
	default:
		w.plain(s)
		w.put(";")
	}
	w.end()
}

// head writes what is ahead of the block of a statement.
func (w *writer) head(s api.Stmt) {
	switch s.Kind {
	case api.StIf:
		w.exprs("if (", s.Expr, ")")
	case api.StWhile:
		w.exprs("while (", s.Expr, ")")
	case api.StAtomic:
		w.put("atomic (")
		list(w, s.Names, w.name)
		w.put(")")
	}
}

// block writes a block behind its head, and leaves the line of its } to what
// follows.
func (w *writer) block(l []api.Stmt) {
	w.put(" {")
	w.end()
	w.inside(l)
	w.begin()
	w.put("}")
}

// inside writes the statements of a block, one step deeper.
func (w *writer) inside(l []api.Stmt) {
	w.indent++
	defer func() { w.indent-- }()
	for _, s := range l {
		w.stmt(s)
	}
}

func (w *writer) otherwise(l []api.Stmt) {
	if len(l) > 0 {
		w.put(" else")
		w.block(l)
	}
}

// plain writes a statement without a block, but for its semicolon.
func (w *writer) plain(s api.Stmt) {
	switch s.Kind {
	case api.StLet:
		w.exprs(Type(s.Type)+" "+s.Name+" = ", s.Expr, "")
	case api.StSet:
		w.put(s.Name)
		if len(s.Index) > 0 {
			w.exprs("[", s.Index, "]")
		}
		w.exprs(" = ", s.Expr, "")
	case api.StCall:
		w.exprs("", s.Expr, "")
	case api.StReturn:
		w.exprs("return ", s.Expr, "")
	case api.StEnable:
		w.put("enable ", strconv.Itoa(s.N))
	case api.StDisable:
		w.put("disable ", strconv.Itoa(s.N))
	case api.StLevel:
		w.put("level ", strconv.Itoa(s.N))
	}
}
