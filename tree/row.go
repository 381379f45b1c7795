package tree

import (
	"slices"

	"folio/api"
	"folio/names"
)

// none is told in place of a place in the row, if there is no such element.
const none = -1

func (b *builder) current() int { return len(b.row) - 1 }

func (b *builder) name(at int) string { return b.nodes[b.row[at]].Name }

// put puts a node into the current element.
func (b *builder) put(node api.Node) {
	node.Parent = b.row[b.current()]
	b.nodes = append(b.nodes, node)
}

func (b *builder) putWords(text string) {
	// If what the current element has last are words, they are the last node of all.
	last := &b.nodes[len(b.nodes)-1]
	if last.Kind == api.Words && last.Parent == b.row[b.current()] {
		last.Text += text
		return
	}
	b.put(api.Node{Kind: api.Words, Text: text})
}

func (b *builder) open(name string, attrs ...api.Attr) {
	b.put(api.Node{Kind: api.Element, Name: name, Attrs: attrs})
	if len(b.row) < api.MaxDepth {
		b.row = append(b.row, len(b.nodes)-1)
	}
}

// openTag opens the element of a Start, or puts it, if it is void.
func (b *builder) openTag(tag api.Token) {
	if names.Is(tag.Name, names.Void()...) {
		b.put(api.Node{Kind: api.Element, Name: tag.Name, Attrs: tag.Attrs})
		return
	}
	b.open(tag.Name, tag.Attrs...)
}

// openAgain opens the forms that are to be; those for which the row has no room are not even put.
func (b *builder) openAgain() {
	room := min(api.MaxDepth-len(b.row), len(b.again))
	for _, number := range b.again[:room] {
		form := b.nodes[number]
		b.open(form.Name, form.Attrs...)
	}
	b.again = nil
}

// closeFrom closes the element that is at a place of the row, with all behind it; if none is there, nothing.
func (b *builder) closeFrom(at int) {
	if at == none || at >= len(b.row) {
		return
	}
	closed := b.row[at:]
	b.row = b.row[:at]
	if slices.ContainsFunc(closed, b.isTabled) {
		b.again = nil
		return
	}
	for _, number := range closed[1:] {
		if b.isForm(number) {
			b.again = append(b.again, number)
		}
	}
}

func (b *builder) isTabled(number int) bool {
	return names.Is(b.nodes[number].Name, names.Tabled()...)
}

func (b *builder) isForm(number int) bool {
	return names.Is(b.nodes[number].Name, names.Forms()...)
}

// isOpenAt is true if the element that is at a place of the row has one of the names.
func (b *builder) isOpenAt(at int, asked ...string) bool {
	return at < len(b.row) && names.Is(b.name(at), asked...)
}

// last tells the place of the last open element that has one of the names.
func (b *builder) last(asked ...string) int {
	for at := b.current(); at >= 0; at-- {
		if names.Is(b.name(at), asked...) {
			return at
		}
	}
	return none
}

func (b *builder) near(asked ...string) int { return b.behind(names.Walls(), asked...) }

// behind tells what last tells, unless a wall stands behind it.
func (b *builder) behind(walls []string, asked ...string) int {
	at := b.last(asked...)
	if at < b.last(walls...) {
		return none
	}
	return at
}

// forget leaves out the last of the forms of this name that are to be opened again.
func (b *builder) forget(name string) {
	for i := len(b.again) - 1; i >= 0; i-- {
		if b.nodes[b.again[i]].Name == name {
			b.again = slices.Delete(b.again, i, i+1)
			return
		}
	}
}

// give gives the element at a place of the row those attributes that it has not.
func (b *builder) give(at int, attrs []api.Attr) {
	element := &b.nodes[b.row[at]]
	for _, attr := range attrs {
		same := func(other api.Attr) bool { return other.Name == attr.Name }
		if len(element.Attrs) < api.MaxAttrs && !slices.ContainsFunc(element.Attrs, same) {
			element.Attrs = append(element.Attrs, attr)
		}
	}
}
