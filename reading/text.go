package reading

import (
	"folio/api"
	"folio/names"
	"folio/walk"
)

type reader struct {
	nodes  []api.Node
	flow   flow
	hidden int // how many open elements hide their words
}

// Text tells the words of a tree that are to be read.
func Text(nodes []api.Node) string {
	r := reader{nodes: nodes}
	walk.Tree(nodes, r.begin, r.end)
	return r.flow.String()
}

func (r *reader) begin(number int) {
	node := r.nodes[number]
	switch {
	case node.Kind == api.Words && r.hidden == 0:
		r.flow.addWords(node.Text)
	case isHidden(node):
		r.hidden++
	case isLine(node), isElement(node, "br", "hr"):
		r.flow.addBreak()
	case isElement(node, "td", "th"):
		r.flow.addSpace()
	}
}

func (r *reader) end(number int) {
	node := r.nodes[number]
	switch {
	case isHidden(node):
		r.hidden--
	case isLine(node):
		r.flow.addBreak()
	}
}

func isElement(node api.Node, asked ...string) bool {
	return node.Kind == api.Element && names.Is(node.Name, asked...)
}

func isHidden(node api.Node) bool {
	return isElement(node, "head", "script", "style", "textarea")
}

// isLine is true of an element that has lines of its own.
func isLine(node api.Node) bool {
	return isElement(node, append(names.Blocks(), "li", "dd", "dt", "tr")...)
}
