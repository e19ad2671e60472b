package show

import (
	"strings"
)

// step is by how much more a block is indented than what is around it.
const step = "  "

// writer is a text that is being written.
type writer struct {
	text   strings.Builder
	indent int // in how many blocks the next line is
}

// put writes texts into the line that was begun.
func (w *writer) put(texts ...string) {
	for _, t := range texts {
		w.text.WriteString(t)
	}
}

// begin begins a line.
func (w *writer) begin() {
	w.put(strings.Repeat(step, w.indent))
}

// end ends a line.
func (w *writer) end() {
	w.put("\n")
}

// list writes elements with commas between them.
func list[T any](w *writer, l []T, element func(T)) {
	for i, x := range l {
		if i > 0 {
			w.put(", ")
		}
		element(x)
	}
}

// name writes one of several names.
func (w *writer) name(name string) {
	w.put(name)
}
