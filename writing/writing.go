// Package writing writes a tree down, so that it can be read again.
package writing

import (
	"strings"

	"folio/api"
	"folio/names"
	"folio/walk"
)

type writer struct {
	nodes []api.Node
	text  strings.Builder
}

// Of tells the nodes as a text; false, if they are no tree.
func Of(nodes []api.Node) (text string, isTree bool) {
	w := writer{nodes: nodes}
	if !walk.Tree(nodes, w.begin, w.end) {
		return "", false
	}
	return w.text.String(), true
}

func (w *writer) begin(number int) {
	node := w.nodes[number]
	switch node.Kind {
	case api.Element:
		w.beginElement(node)
	case api.Words:
		w.words(node)
	case api.Remark:
		w.write("<!--", node.Text, "-->")
	}
}

func (w *writer) beginElement(node api.Node) {
	w.write("<", node.Name)
	for _, attr := range node.Attrs {
		w.write(" ", attr.Name, `="`, inValue(attr.Value), `"`)
	}
	w.write(">")
}

func (w *writer) words(node api.Node) {
	if names.Is(w.nodes[node.Parent].Name, "script", "style") {
		// There no sign is read as anything else.
		w.write(node.Text)
		return
	}
	w.write(inWords(node.Text))
}

func (w *writer) end(number int) { w.write("</", w.nodes[number].Name, ">") }

func (w *writer) write(texts ...string) {
	for _, text := range texts {
		w.text.WriteString(text)
	}
}

// The "&" goes first, ahead of those that are written for other signs.

func inValue(value string) string {
	value = strings.ReplaceAll(value, "&", "&amp;")
	return strings.ReplaceAll(value, `"`, "&quot;")
}

func inWords(text string) string {
	text = strings.ReplaceAll(text, "&", "&amp;")
	text = strings.ReplaceAll(text, "<", "&lt;")
	return strings.ReplaceAll(text, ">", "&gt;")
}
