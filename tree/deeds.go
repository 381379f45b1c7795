package tree

import (
	"folio/api"
	"folio/names"
)

func nothing() deed {
	return func(b *builder, tag api.Token) bool { return isAll }
}

// asItIs does nothing ahead of what every Start does.
func asItIs() deed {
	return func(b *builder, tag api.Token) bool { return goOn }
}

func intoBody() deed {
	return func(b *builder, tag api.Token) bool {
		b.goIntoBody()
		return goOn
	}
}

// giveTo gives the tag's attributes to the one element that has this name.
func giveTo(name string) deed {
	return func(b *builder, tag api.Token) bool {
		b.give(b.last(name), tag.Attrs)
		return isAll
	}
}

func startHead() deed {
	return func(b *builder, tag api.Token) bool {
		if b.where == inFront {
			b.goIntoHead(tag.Attrs...)
		}
		return isAll
	}
}

func openInHead() deed {
	return func(b *builder, tag api.Token) bool {
		if b.where == inFront {
			b.goIntoHead()
		}
		b.openTag(tag)
		return isAll
	}
}

func openAgain() deed {
	return func(b *builder, tag api.Token) bool {
		b.openAgain()
		return goOn
	}
}

func closeNear(asked ...string) deed { return closeBehind(names.Walls(), asked...) }

func closeBehind(walls []string, asked ...string) deed {
	return func(b *builder, tag api.Token) bool {
		b.closeFrom(b.behind(walls, asked...))
		return goOn
	}
}

func closeCurrent(asked ...string) deed {
	return func(b *builder, tag api.Token) bool {
		if names.Is(b.name(b.current()), asked...) {
			b.closeFrom(b.current())
		}
		return goOn
	}
}

// startPart makes room for a part of a table. Around it, from the table on, stands one of each of the lists; where none does, the first is opened.
func startPart(around ...[]string) deed {
	return func(b *builder, tag api.Token) bool {
		at := b.last("table")
		if at == none {
			return isAll
		}
		at++
		missing := around
		for len(missing) > 0 && b.isOpenAt(at, missing[0]...) {
			missing = missing[1:]
			at++
		}
		b.closeFrom(at)
		for _, list := range missing {
			b.open(list[0])
		}
		return goOn
	}
}

// endAsStart does what a Start of this name without attributes does.
func endAsStart(name string) deed {
	return func(b *builder, tag api.Token) bool {
		b.takeStart(api.Token{Kind: api.Start, Name: name})
		return goOn
	}
}

func endParagraph() deed {
	start, end := endAsStart("p"), closeNear("p")
	return func(b *builder, tag api.Token) bool {
		if b.near("p") == none {
			start(b, tag)
		}
		return end(b, tag)
	}
}

// endTabled closes nothing around the last table, unless that is it.
func endTabled(name string) deed { return closeBehind([]string{"table"}, name) }

func endForm(name string) deed {
	return func(b *builder, tag api.Token) bool {
		if at := b.near(name); at != none {
			b.closeFrom(at)
		} else {
			b.forget(name)
		}
		return isAll
	}
}

// endOther closes what has the tag's name.
func endOther() deed {
	return func(b *builder, tag api.Token) bool {
		b.closeFrom(b.near(tag.Name))
		return isAll
	}
}
