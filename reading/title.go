package reading

import (
	"slices"

	"folio/api"
)

// Title tells the words of a tree's first title.
func Title(nodes []api.Node) string {
	at := slices.IndexFunc(nodes, func(node api.Node) bool { return isElement(node, "title") })
	if at < 0 {
		return ""
	}
	var words flow
	for _, node := range nodes[at+1:] {
		if node.Parent < at {
			// Each node behind the title stands in it, up to the first that stands in one around it.
			break
		}
		if node.Kind == api.Words {
			words.addWords(node.Text)
		}
	}
	return words.String()
}
