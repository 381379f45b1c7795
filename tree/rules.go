package tree

import (
	"folio/api"
	"folio/names"
)

// deed is a thing that a tag does to a tree. It tells whether the tag goes on, or that is all.
type deed func(b *builder, tag api.Token) bool

const (
	goOn  = true
	isAll = false
)

// others stands for all names for which no rule asks; no tag is without a name.
const others = ""

// rules say of each deed which names ask for it, in the order in which the deeds of a name are done.
type rules func(say func(do deed, asked ...string))

// of works out what a tag of this name does, without the tables.
func (r rules) of(name string) []deed {
	var own, rest []deed
	r(func(do deed, asked ...string) {
		if names.Is(name, asked...) {
			own = append(own, do)
		} else if names.Is(others, asked...) {
			rest = append(rest, do)
		}
	})
	if len(own) > 0 {
		return own
	}
	return rest
}

func earlyStartRules(say func(do deed, asked ...string)) {
	say(giveTo("html"), "html")
	say(startHead(), "head")
	say(openInHead(), names.Heads()...)
	say(intoBody(), others)
}

func earlyEndRules(say func(do deed, asked ...string)) {
	say(closeCurrent("script", "style", "title"), "script", "style", "title")
	say(intoBody(), "head", "body", "html", "br", "p")
	say(nothing(), "script", "style", "title", "head", others)
}

// startRules keep to the document's order, since a name may be of several sorts.
func startRules(say func(do deed, asked ...string)) {
	say(giveTo("html"), "html")
	say(giveTo("body"), "body")
	say(nothing(), "head")
	say(closeBehind(append(names.Walls(), "ol", "ul"), "li"), "li")
	say(closeBehind(append(names.Walls(), "dl"), "dd", "dt"), "dd", "dt")
	say(closeNear("p"), append(names.Blocks(), "li", "dd", "dt")...)
	say(closeCurrent(names.Headings()...), names.Headings()...)
	say(closeCurrent("option"), "option")
	sections, lines := []string{"tbody", "tfoot", "thead"}, []string{"tr"}
	say(startPart(), "caption", "tbody", "tfoot", "thead")
	say(startPart(sections), "tr")
	say(startPart(sections, lines), "td", "th")
	say(closeNear("a"), "a")
	say(openAgain(), append(names.Forms(), names.Void()...)...)
	say(openAgain(), others)
	// Heads that are not void open no forms again.
	say(asItIs(), "script", "style", "title")
}

func endRules(say func(do deed, asked ...string)) {
	say(nothing(), "body", "head", "html")
	say(endAsStart("br"), "br")
	say(endParagraph(), "p")
	say(closeNear(names.Headings()...), names.Headings()...)
	for _, name := range names.Tabled() {
		say(endTabled(name), name)
	}
	for _, name := range names.Forms() {
		say(endForm(name), name)
	}
	say(endOther(), others)
}
