// Package folio: pages as they come, and what stands on them: see DOC.md.
package folio

import (
	"slices"
	"strings"

	"folio/addresses"
	"folio/api"
	"folio/letters"
	"folio/reading"
	"folio/tokens"
	"folio/tree"
	"folio/writing"
)

// Decode tells the letters of bytes (P2).
func Decode(bytes string) (string, api.Errno) {
	if len(bytes) > api.MaxBytes {
		return "", api.ErrLarge
	}
	var text string
	letters.OfBytes([]string{bytes}, func(row *letters.Row) {
		// There are no more letters than bytes.
		text = row.Text(0, len(bytes))
	})
	return text, api.OK
}

// Tokens tells the tokens of a text (P3).
func Tokens(text string) ([]api.Token, api.Errno) {
	if len(text) > api.MaxBytes {
		return nil, api.ErrLarge
	}
	var list []api.Token
	letters.OfText(text, func(row *letters.Row) { list = tokens.Of(row) })
	return list, api.OK
}

// Parser takes a page's bytes, piece by piece.
type Parser struct {
	pieces []string
	size   int // of all pieces
	ended  bool
}

// New makes a parser (P4).
func New() *Parser { return &Parser{} }

// Feed takes a piece (P4).
func (p *Parser) Feed(bytes string) api.Errno {
	switch {
	case p.ended:
		return api.ErrEnded
	case len(bytes) > api.MaxBytes-p.size:
		return api.ErrLarge
	case bytes != "":
		p.pieces = append(p.pieces, strings.Clone(bytes))
		p.size += len(bytes)
	}
	return api.OK
}

// End ends a page (P4).
func (p *Parser) End() (*Page, api.Errno) {
	if p.ended {
		return nil, api.ErrEnded
	}
	var page Page
	letters.OfBytes(p.pieces, func(row *letters.Row) { page.nodes = tree.Of(tokens.Of(row)) })
	*p = Parser{ended: true}
	return &page, api.OK
}

// Page is a page that has ended.
type Page struct {
	nodes []api.Node
}

// Nodes tells the tree (P4).
func (p *Page) Nodes() []api.Node {
	nodes := slices.Clone(p.nodes)
	for i := range nodes {
		// Elements that were opened again have one list within the page.
		nodes[i].Attrs = slices.Clone(nodes[i].Attrs)
	}
	return nodes
}

// Title tells the title (P5).
func (p *Page) Title() string { return reading.Title(p.nodes) }

// Text tells the text that is to be read (P5).
func (p *Page) Text() string { return reading.Text(p.nodes) }

// Links tells where the links lead (P5).
func (p *Page) Links(address string) []string { return reading.Links(p.nodes, address) }

// Resolve resolves a reference (P5).
func Resolve(base string, reference string) string { return addresses.Resolve(base, reference) }

// Write writes a tree (P6).
func Write(nodes []api.Node) (string, api.Errno) {
	text, isTree := writing.Of(nodes)
	if !isTree {
		return "", api.ErrTree
	}
	return text, api.OK
}
