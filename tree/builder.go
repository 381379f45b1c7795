// Package tree makes a tree of a page's tokens.
package tree

import (
	"strings"

	"folio/api"
	"folio/letters"
	"folio/names"
)

// place is how far into a page its tokens have led.
type place int

const (
	inFront place = iota
	inHead
	inBody
)

// builder has the tree so far. What is put stands behind all that there is, so that no node's number changes.
type builder struct {
	nodes []api.Node
	row   []int // the numbers of the open elements
	again []int // the numbers of the forms that are to be opened again
	where place
}

// Of tells the tree of tokens.
func Of(list []api.Token) []api.Node {
	html := api.Node{Kind: api.Element, Parent: -1, Name: "html"}
	b := builder{nodes: []api.Node{html}, row: []int{0}}
	for _, token := range list {
		b.take(token)
	}
	b.goIntoBody()
	return b.nodes
}

func (b *builder) take(token api.Token) {
	switch token.Kind {
	case api.Text:
		b.takeText(token.Text)
	case api.Comment:
		b.put(api.Node{Kind: api.Remark, Text: token.Text})
	case api.Start:
		b.takeStart(token)
	case api.End:
		b.takeEnd(token)
	}
}

func (b *builder) takeText(text string) {
	if names.Is(b.name(b.current()), names.Texts()...) {
		b.putWords(text)
		return
	}
	if b.where != inBody {
		text = strings.TrimLeft(text, letters.Space)
		if text == "" {
			return
		}
		b.goIntoBody()
	}
	if strings.Trim(text, letters.Space) != "" {
		b.openAgain()
	}
	b.putWords(text)
}

func (b *builder) takeStart(tag api.Token) {
	if b.where != inBody && earlyStarts.do(b, tag) == isAll {
		return
	}
	if starts.do(b, tag) == goOn {
		b.openTag(tag)
	}
}

func (b *builder) takeEnd(tag api.Token) {
	if b.where == inBody || earlyEnds.do(b, tag) == goOn {
		ends.do(b, tag)
	}
}

func (b *builder) goIntoHead(attrs ...api.Attr) {
	b.open("head", attrs...)
	b.where = inHead
}

func (b *builder) goIntoBody() {
	if b.where == inBody {
		return
	}
	if b.where == inFront {
		b.goIntoHead()
	}
	b.closeFrom(b.last("head"))
	b.open("body")
	b.where = inBody
}
