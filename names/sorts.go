package names

// Void names are of elements in which nothing stands.
func Void() []string {
	return []string{"area", "base", "br", "col", "embed", "hr", "img", "input", "link", "meta", "source", "track", "wbr"}
}

// Heads are names of elements that may stand in the head.
func Heads() []string {
	return []string{"base", "link", "meta", "script", "style", "title"}
}

// Texts are names of elements in which all is one text.
func Texts() []string {
	return []string{"script", "style", "textarea", "title"}
}

// Headings are blocks that do not stand in each other.
func Headings() []string {
	return []string{"h1", "h2", "h3", "h4", "h5", "h6"}
}

// Blocks are names of elements that end a paragraph.
func Blocks() []string {
	return []string{
		"address", "article", "aside", "blockquote", "center", "details", "dialog", "dir", "div", "dl",
		"fieldset", "figcaption", "figure", "footer", "form", "h1", "h2", "h3", "h4", "h5", "h6",
		"header", "hgroup", "main", "menu", "nav", "ol", "p", "pre", "section", "summary", "table", "ul",
	}
}

// Forms are names of elements that are opened again where one around them was closed ahead of them.
func Forms() []string {
	return []string{"a", "b", "big", "code", "em", "font", "i", "nobr", "s", "small", "strike", "strong", "tt", "u"}
}

// Tabled names are those of tables and of what stands in them.
func Tabled() []string {
	return []string{"caption", "table", "tbody", "td", "tfoot", "th", "thead", "tr"}
}

// Walls are names of elements over which none is looked for.
func Walls() []string {
	return []string{"body", "caption", "html", "table", "td", "th"}
}
