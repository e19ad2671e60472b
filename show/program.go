package show

import (
	"strconv"

	"lamplighter/api"
)

func (w *writer) program(p api.Program) {
	w.put("stack ", strconv.Itoa(p.Stack), ";")
	w.end()
	for _, g := range p.Globals {
		w.global(g)
	}
	for _, g := range p.Gates {
		w.put("port ", access(g), " ", g.Name, ";")
		w.end()
	}
	for _, d := range p.Funcs {
		w.function(d)
	}
}

func (w *writer) global(g api.Global) {
	w.put(Type(g.Type), " ", g.Name)
	if g.Len > 0 {
		w.put("[", strconv.Itoa(g.Len), "]")
	}
	if len(g.Init) > 0 {
		w.put(" = ")
		list(w, g.Init, w.word)
	}
	w.put(";")
	w.end()
}

// access is the word for what can be done with a port.
func access(g api.Gate) string {
	switch {
	case g.Read && g.Write:
		return "both"
	case g.Read:
		return "read"
	}
	return "write"
}

func (w *writer) function(d api.Decl) {
	switch d.Kind {
	case api.KindFunc:
		w.put("func ", d.Name, "(")
		list(w, d.Params, w.param)
		w.put(")")
	case api.KindMain:
		w.put("main")
	case api.KindOn:
		w.put("on ", strconv.Itoa(d.On), " prio ", strconv.Itoa(d.Prio))
	}
	w.block(d.Body)
	w.end()
}

func (w *writer) param(p api.Param) {
	w.put(Type(p.Type), " ", p.Name)
}
