package check

import (
	"lamplighter/api"
)

// graph is which functions lead to which: for each a set, as bits.
type graph [api.MaxFuncs]uint64

func (g *graph) add(from, to int) {
	g[from] |= 1 << to
}

func (g *graph) leads(from, to int) bool {
	return g[from]>>to&1 != 0
}

// closed is a graph in which each function leads to all that it leads to over
// others.
func (g graph) closed() *graph {
	for over := range g {
		for from := range g {
			if g.leads(from, over) {
				g[from] |= g[over]
			}
		}
	}
	return &g
}
