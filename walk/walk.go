// Package walk goes through a tree's nodes in order.
package walk

import (
	"folio/api"
	"folio/names"
)

// noParent is told as the parent of node 0.
const noParent = -1

type walker struct {
	nodes []api.Node
	open  []int // the numbers of the elements around the next node, or ahead of it, that have not ended
	end   func(number int)
}

// Tree calls begin for each node, and end for each element that is not void, behind all that stands in it. It answers false as soon as the nodes are no tree.
func Tree(nodes []api.Node, begin, end func(number int)) bool {
	w := walker{nodes: nodes, end: end}
	for number, node := range nodes {
		w.endUpTo(node.Parent)
		if !w.fits(number) {
			return false
		}
		begin(number)
		if node.Kind == api.Element && !names.Is(node.Name, names.Void()...) {
			w.open = append(w.open, number)
		}
	}
	w.endUpTo(noParent)
	return len(nodes) > 0
}

// endUpTo ends the elements behind one of those that are open, or all, if it is none of them.
func (w *walker) endUpTo(number int) {
	for last := len(w.open) - 1; last >= 0 && w.open[last] != number; last-- {
		w.end(w.open[last])
		w.open = w.open[:last]
	}
}

// fits is asked when the last open element can only be the node's parent.
func (w *walker) fits(number int) bool {
	node := w.nodes[number]
	if number == 0 {
		return node.Kind == api.Element && node.Name == "html" && node.Parent == noParent
	}
	return len(w.open) > 0 && isKind(node.Kind)
}

func isKind(kind int) bool {
	return kind == api.Element || kind == api.Words || kind == api.Remark
}
