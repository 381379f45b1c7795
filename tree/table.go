package tree

import (
	"folio/api"
	"folio/names"
)

// deed is a thing that a tag does to a tree. It tells whether the tag goes on, or that is all.
type deed func(b *builder, tag api.Token) bool

const (
	goOn  = true
	isAll = false
)

// deeds are told by the names of tags, and done in their order.
type deeds map[string][]deed

// others stands for all names that the table has not; no tag is without a name.
const others = ""

func (d deeds) add(do deed, asked ...string) {
	for _, name := range asked {
		d[name] = append(d[name], do)
	}
}

func (d deeds) do(b *builder, tag api.Token) bool {
	list, known := d[tag.Name]
	if !known {
		list = d[others]
	}
	for _, do := range list {
		if do(b, tag) == isAll {
			return isAll
		}
	}
	return goOn
}

// What Starts and Ends do: the early ones in front and in the head, the others in the body.
var (
	earlyStarts = deeds{}
	earlyEnds   = deeds{}
	starts      = deeds{}
	ends        = deeds{}
)

func init() {
	fillEarly()
	fillStarts()
	fillEnds()
}

func fillEarly() {
	earlyStarts.add(giveTo("html"), "html")
	earlyStarts.add(startHead(), "head")
	earlyStarts.add(openInHead(), names.Heads()...)
	earlyStarts.add(intoBody(), others)

	earlyEnds.add(closeCurrent("script", "style", "title"), "script", "style", "title")
	earlyEnds.add(intoBody(), "head", "body", "html", "br", "p")
	earlyEnds.add(nothing(), "script", "style", "title", "head", others)
}

// fillStarts keeps to the document's order, since a name may be of several sorts.
func fillStarts() {
	starts.add(giveTo("html"), "html")
	starts.add(giveTo("body"), "body")
	starts.add(nothing(), "head")
	starts.add(closeBehind(append(names.Walls(), "ol", "ul"), "li"), "li")
	starts.add(closeBehind(append(names.Walls(), "dl"), "dd", "dt"), "dd", "dt")
	starts.add(closeNear("p"), append(names.Blocks(), "li", "dd", "dt")...)
	starts.add(closeCurrent(names.Headings()...), names.Headings()...)
	starts.add(closeCurrent("option"), "option")
	sections, lines := []string{"tbody", "tfoot", "thead"}, []string{"tr"}
	starts.add(startPart(), "caption", "tbody", "tfoot", "thead")
	starts.add(startPart(sections), "tr")
	starts.add(startPart(sections, lines), "td", "th")
	starts.add(closeNear("a"), "a")
	starts.add(openAgain(), append(names.Forms(), names.Void()...)...)
	starts.add(openAgain(), others)
	// Heads that are not void open no forms again.
	starts.add(asItIs(), "script", "style", "title")
}

func fillEnds() {
	ends.add(nothing(), "body", "head", "html")
	ends.add(endAsStart("br"), "br")
	ends.add(endParagraph(), "p")
	ends.add(closeNear(names.Headings()...), names.Headings()...)
	for _, name := range names.Tabled() {
		ends.add(endTabled(name), name)
	}
	for _, name := range names.Forms() {
		ends.add(endForm(name), name)
	}
	ends.add(endOther(), others)
}
