// Package tree makes a tree of a page's tokens.
package tree

import (
	"strings"

	"folio/api"
	"folio/letters"
	"folio/names"
)

// place is how far into a page its tokens have led.
type place int

const (
	inFront place = iota
	inHead
	inBody
)

// builder has the tree so far. What is put stands behind all that there is, so that no node's number changes.
type builder struct {
	nodes []api.Node
	row   []int // the numbers of the open elements
	again []int // the numbers of the forms that are to be opened again
	where place
	guide guide
}

// guide tells what tags of a name do: early ones, in front and in the head, and those in the body.
type guide struct {
	earlyStart, earlyEnd, start, end func(name string) []deed
}

// Of tells the tree of tokens. What their tags do it works out anew for each.
func Of(list []api.Token) []api.Node {
	return build(list, guide{
		earlyStart: rules(earlyStartRules).of,
		earlyEnd:   rules(earlyEndRules).of,
		start:      rules(startRules).of,
		end:        rules(endRules).of,
	})
}

// ByTable tells the tree of tokens, the same as Of. What their tags do it takes from the tables, which start-up filled by the same rules.
func ByTable(list []api.Token) []api.Node {
	return build(list, guide{
		earlyStart: earlyStarts.of,
		earlyEnd:   earlyEnds.of,
		start:      starts.of,
		end:        ends.of,
	})
}

func build(list []api.Token, by guide) []api.Node {
	html := api.Node{Kind: api.Element, Parent: -1, Name: "html"}
	b := builder{nodes: []api.Node{html}, row: []int{0}, guide: by}
	for _, token := range list {
		b.take(token)
	}
	b.goIntoBody()
	return b.nodes
}

func (b *builder) take(token api.Token) {
	switch token.Kind {
	case api.Text:
		b.takeText(token.Text)
	case api.Comment:
		b.put(api.Node{Kind: api.Remark, Text: token.Text})
	case api.Start:
		b.takeStart(token)
	case api.End:
		b.takeEnd(token)
	}
}

func (b *builder) takeText(text string) {
	if names.Is(b.name(b.current()), names.Texts()...) {
		b.putWords(text)
		return
	}
	if b.where != inBody {
		text = strings.TrimLeft(text, letters.Space)
		if text == "" {
			return
		}
		b.goIntoBody()
	}
	if strings.Trim(text, letters.Space) != "" {
		b.openAgain()
	}
	b.putWords(text)
}

func (b *builder) takeStart(tag api.Token) {
	if b.where != inBody && b.do(b.guide.earlyStart, tag) == isAll {
		return
	}
	if b.do(b.guide.start, tag) == goOn {
		b.openTag(tag)
	}
}

func (b *builder) takeEnd(tag api.Token) {
	if b.where == inBody || b.do(b.guide.earlyEnd, tag) == goOn {
		b.do(b.guide.end, tag)
	}
}

// do does what a tag's name asks for, in order, up to what says that that is all.
func (b *builder) do(asked func(name string) []deed, tag api.Token) bool {
	for _, do := range asked(tag.Name) {
		if do(b, tag) == isAll {
			return isAll
		}
	}
	return goOn
}

func (b *builder) goIntoHead(attrs ...api.Attr) {
	b.open("head", attrs...)
	b.where = inHead
}

func (b *builder) goIntoBody() {
	if b.where == inBody {
		return
	}
	if b.where == inFront {
		b.goIntoHead()
	}
	b.closeFrom(b.last("head"))
	b.open("body")
	b.where = inBody
}
