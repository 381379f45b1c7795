// Package folio: pages as they come, and what stands on them: see DOC.md.
package folio

import (
	"folio/api"
	"folio/letters"
	"folio/tokens"
)

// Decode tells the letters of bytes (P2).
func Decode(bytes string) (string, api.Errno) {
	if len(bytes) > api.MaxBytes {
		return "", api.ErrLarge
	}
	var text string
	letters.OfBytes([]string{bytes}, func(row *letters.Row) {
		// There are no more letters than bytes.
		text = row.Text(0, len(bytes))
	})
	return text, api.OK
}

// Tokens tells the tokens of a text (P3).
func Tokens(text string) ([]api.Token, api.Errno) {
	if len(text) > api.MaxBytes {
		return nil, api.ErrLarge
	}
	var list []api.Token
	letters.OfText(text, func(row *letters.Row) { list = tokens.Of(row) })
	return list, api.OK
}

// Parser takes a page's bytes, piece by piece.
type Parser struct{}

// New makes a parser (P4).
func New() *Parser { return nil }

// Feed takes a piece (P4).
func (p *Parser) Feed(bytes string) api.Errno { return api.OK }

// End ends a page (P4).
func (p *Parser) End() (*Page, api.Errno) { return nil, api.OK }

// Page is a page that has ended.
type Page struct{}

// Nodes tells the tree (P4).
func (p *Page) Nodes() []api.Node { return nil }

// Title tells the title (P5).
func (p *Page) Title() string { return "" }

// Text tells the text that is to be read (P5).
func (p *Page) Text() string { return "" }

// Links tells where the links lead (P5).
func (p *Page) Links(address string) []string { return nil }

// Resolve resolves a reference (P5).
func Resolve(base string, reference string) string { return "" }

// Write writes a tree (P6).
func Write(nodes []api.Node) (string, api.Errno) { return "", api.OK }
