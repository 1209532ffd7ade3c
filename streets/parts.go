package streets

import "lampbox/api"

// parts divides the vertices; it has for each vertex the smallest one of its part.
type parts struct {
	first [api.MaxBoxes]int
}

// separate has each vertex in a part of its own.
func separate() parts {
	var p parts
	for v := range p.first {
		p.first[v] = v
	}
	return p
}

func (p *parts) joined(u, v int) bool {
	return p.first[u] == p.first[v]
}

// join makes the parts of two vertices one, and reports whether they were two before.
func (p *parts) join(u, v int) bool {
	kept := min(p.first[u], p.first[v])
	gone := max(p.first[u], p.first[v])
	for w := range p.first {
		if p.first[w] == gone {
			p.first[w] = kept
		}
	}
	return kept != gone
}
