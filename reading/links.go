package reading

import (
	"strings"

	"folio/addresses"
	"folio/api"
	"folio/letters"
)

// Links tells where the links of a tree lead whose page has this address.
func Links(nodes []api.Node, address string) []string {
	base := address
	if hrefs := hrefsOf(nodes, "base"); len(hrefs) > 0 {
		base = addresses.Resolve(address, hrefs[0])
	}
	var links []string
	for _, href := range hrefsOf(nodes, "a", "area") {
		links = append(links, addresses.Resolve(base, href))
	}
	return links
}

// hrefsOf tells the references of the elements of these names that have one.
func hrefsOf(nodes []api.Node, asked ...string) []string {
	var hrefs []string
	for _, node := range nodes {
		if !isElement(node, asked...) {
			continue
		}
		for _, attr := range node.Attrs {
			if attr.Name == "href" {
				hrefs = append(hrefs, strings.Trim(attr.Value, letters.Space))
			}
		}
	}
	return hrefs
}
