package folio_test

import (
	"math/rand/v2"
	"reflect"
	"strings"
	"testing"

	"folio/api"
	"folio/folio"
)

// treeNode is a node of the reference's tree, which is made of pointers and read from the document a second time, rule by rule.
type treeNode struct {
	api.Node
	inner []*treeNode
}

type treeReference struct {
	html, head, body *treeNode
	open             []*treeNode
	again            []*treeNode
}

// referenceNodes makes the tree of the bytes' tokens.
func referenceNodes(bytes string) []api.Node {
	letters, _ := folio.Decode(bytes)
	tokens, _ := folio.Tokens(letters)
	html := &treeNode{Node: api.Node{Kind: api.Element, Name: "html"}}
	r := &treeReference{html: html, open: []*treeNode{html}}
	for _, token := range tokens {
		switch token.Kind {
		case api.Text:
			r.text(token.Text)
		case api.Comment:
			r.put(api.Node{Kind: api.Remark, Text: token.Text})
		case api.Start:
			r.start(token.Name, token.Attrs)
		case api.End:
			r.end(token.Name)
		}
	}
	r.intoBody()
	return flat(html, -1, nil)
}

func flat(n *treeNode, parent int, list []api.Node) []api.Node {
	n.Parent = parent
	place := len(list)
	list = append(list, n.Node)
	for _, inner := range n.inner {
		list = flat(inner, place, list)
	}
	return list
}

func (r *treeReference) current() *treeNode { return r.open[len(r.open)-1] }

func (r *treeReference) put(node api.Node) *treeNode {
	to := r.current()
	if last := len(to.inner) - 1; node.Kind == api.Words && last >= 0 && to.inner[last].Kind == api.Words {
		to.inner[last].Text += node.Text
		return nil
	}
	n := &treeNode{Node: node}
	to.inner = append(to.inner, n)
	return n
}

func (r *treeReference) openOne(name string, attrs []api.Attr) *treeNode {
	n := r.put(api.Node{Kind: api.Element, Name: name, Attrs: attrs})
	if len(r.open) != api.MaxDepth {
		r.open = append(r.open, n)
	}
	return n
}

func (r *treeReference) close(n *treeNode) {
	if n == nil {
		return
	}
	var left []*treeNode
	table := false
	for {
		last := r.current()
		r.open = r.open[:len(r.open)-1]
		table = table || isOneOf(last.Name, tabled)
		if last == n {
			break
		}
		if isOneOf(last.Name, forms) {
			left = append([]*treeNode{last}, left...)
		}
	}
	r.again = append(r.again, left...)
	if table {
		r.again = nil
	}
}

func (r *treeReference) openAgain() {
	for _, n := range r.again {
		if len(r.open) < api.MaxDepth {
			r.openOne(n.Name, n.Attrs)
		}
	}
	r.again = nil
}

// near tells the last open element of the names, unless one of the walls comes first, from behind.
func (r *treeReference) near(sort, walls string) *treeNode {
	for i := len(r.open) - 1; i >= 0; i-- {
		if isOneOf(r.open[i].Name, sort) {
			return r.open[i]
		}
		if isOneOf(r.open[i].Name, walls) {
			break
		}
	}
	return nil
}

func (r *treeReference) intoBody() {
	if r.body != nil {
		return
	}
	if r.head == nil {
		r.head = r.openOne("head", nil)
	}
	r.close(r.head)
	r.body = r.openOne("body", nil)
}

func (r *treeReference) text(words string) {
	const space = "\t\n\f\r "
	if !isOneOf(r.current().Name, "script style title textarea") {
		if r.body == nil {
			for words != "" && strings.Contains(space, words[:1]) {
				words = words[1:]
			}
			if words == "" {
				return
			}
			r.intoBody()
		}
		for _, letter := range words {
			if !strings.ContainsRune(space, letter) {
				r.openAgain()
			}
		}
	}
	r.put(api.Node{Kind: api.Words, Text: words})
}

func given(n *treeNode, attrs []api.Attr) {
next:
	for _, attr := range attrs {
		for _, other := range n.Attrs {
			if other.Name == attr.Name {
				continue next
			}
		}
		if len(n.Attrs) < api.MaxAttrs {
			n.Attrs = append(n.Attrs, attr)
		}
	}
}

func (r *treeReference) start(name string, attrs []api.Attr) {
	switch {
	case name == "html":
		given(r.html, attrs)
		return
	case name == "body":
		r.intoBody()
		given(r.body, attrs)
		return
	case name == "head":
		if r.head == nil {
			r.head = r.openOne("head", attrs)
		}
		return
	case isOneOf(name, heads) && r.body == nil:
		if r.head == nil {
			r.head = r.openOne("head", nil)
		}
	default:
		r.intoBody()
		if !r.prepare(name) {
			return
		}
	}
	if isOneOf(name, void) {
		r.put(api.Node{Kind: api.Element, Name: name, Attrs: attrs})
	} else {
		r.openOne(name, attrs)
	}
}

// prepare does what a name asks for ahead of its element; false, if the Start is nothing.
func (r *treeReference) prepare(name string) bool {
	block := isOneOf(name, blocks+" li dd dt")
	if name == "li" {
		r.close(r.near("li", walls+" ol ul"))
	}
	if name == "dd" || name == "dt" {
		r.close(r.near("dd dt", walls+" dl"))
	}
	if block {
		r.close(r.near("p", walls))
	}
	if isOneOf(name, headings) && isOneOf(r.current().Name, headings) || name == "option" && r.current().Name == "option" {
		r.close(r.current())
	}
	if isOneOf(name, tabled) && name != "table" {
		if !r.preparePart(name) {
			return false
		}
	}
	if name == "a" {
		r.close(r.near("a", walls))
	}
	if isOneOf(name, forms) || isOneOf(name, void) || !block && name != "option" && !isOneOf(name, tabled) && !isOneOf(name, heads) {
		r.openAgain()
	}
	return true
}

func (r *treeReference) preparePart(name string) bool {
	table := len(r.open) - 1
	for table >= 0 && r.open[table].Name != "table" {
		table--
	}
	if table < 0 {
		return false
	}
	behind := append([]*treeNode(nil), r.open[table+1:]...)
	cell := name == "td" || name == "th"
	section, line := false, false
	if (cell || name == "tr") && len(behind) > 0 && isOneOf(behind[0].Name, "thead tbody tfoot") {
		section = true
		behind = behind[1:]
		if cell && len(behind) > 0 && behind[0].Name == "tr" {
			line = true
			behind = behind[1:]
		}
	}
	if len(behind) > 0 {
		r.close(behind[0])
	}
	if (cell || name == "tr") && !section {
		r.openOne("tbody", nil)
	}
	if cell && !line {
		r.openOne("tr", nil)
	}
	return true
}

func (r *treeReference) end(name string) {
	if r.body == nil {
		switch name {
		case "script", "style", "title":
			if r.current().Name == name {
				r.close(r.current())
			}
			return
		case "head":
			r.intoBody()
			return
		case "body", "html", "br", "p":
			r.intoBody()
		default:
			return
		}
	}
	switch {
	case isOneOf(name, "body html head"):
	case name == "br":
		r.start("br", nil)
	case name == "p":
		if r.near("p", walls) == nil {
			r.start("p", nil)
		}
		r.close(r.near("p", walls))
	case isOneOf(name, headings):
		r.close(r.near(headings, walls))
	case isOneOf(name, tabled):
		r.close(r.near(name, "table"))
	case isOneOf(name, forms):
		r.endForm(name)
	default:
		r.close(r.near(name, walls))
	}
}

func (r *treeReference) endForm(name string) {
	if n := r.near(name, walls); n != nil {
		r.close(n)
		return
	}
	for i := len(r.again) - 1; i >= 0; i-- {
		if r.again[i].Name == name {
			r.again = append(r.again[:i:i], r.again[i+1:]...)
			return
		}
	}
}

func checkReferenceNodes(t *testing.T, bytes string, sizes ...int) {
	t.Helper()
	want := referenceNodes(bytes)
	for _, size := range append(sizes, len(bytes)) {
		got := fed(t, cut(bytes, max(size, 1))...).Nodes()
		if !reflect.DeepEqual(got, want) {
			t.Fatalf("P4: %q in pieces of %d:\n got %s\nwant %s", bytes, size, sketch(got, -1), sketch(want, -1))
		}
		checkShape(t, bytes, got)
	}
}

// tagsOf gives a Start and an End of each name.
func tagsOf(names ...string) []string {
	var tags []string
	for _, name := range names {
		tags = append(tags, "<"+name+">", "</"+name+">")
	}
	return tags
}

func TestTreeRowsOfTags(t *testing.T) {
	t.Parallel()
	for _, c := range []struct {
		front  string
		length int
		names  string
		others []string
	}{
		{"", 3, "html head body title meta p br b x td", []string{" ", "x", "<!--c-->"}},
		{"", 4, "p b div table td", []string{"x"}},
		{"<table>", 4, "tr td tbody b table", []string{"x"}},
		{"<div><b><i>", 4, "div b a p", []string{" ", "x", "<br>"}},
		{"<ul><li>", 4, "li ul p dd", []string{"x"}},
		{"<dl>", 4, "dl dt dd p", []string{"x"}},
		{"", 4, "h1 h2 p option", []string{"y"}},
	} {
		rows(append(tagsOf(each(c.names)...), c.others...), c.length, c.front, func(page string) {
			checkReferenceNodes(t, page)
		})
	}
}

func TestTreeEveryPairOfNames(t *testing.T) {
	t.Parallel()
	names := each(void, heads, blocks, forms, tabled, walls, "li dd dt option textarea html head body x")
	for _, one := range names {
		for _, other := range names {
			tag := "<" + other + " k=v>"
			for _, page := range []string{
				"<" + one + ">" + tag + "x", "<table><td><" + one + "><b>1" + tag + "x</" + one + ">y", "<p><" + one + "><i>2" + tag + "</p>x",
				"<div><u><" + one + ">3</" + other + ">x</div>y", "<li><" + one + "><li>" + tag + "x", "<meta><" + one + "> <" + other + "></" + one + "> x</" + other + ">y",
			} {
				checkReferenceNodes(t, page)
			}
		}
	}
}

func TestTreeMixes(t *testing.T) {
	t.Parallel()
	few := append(tagsOf(each("p b i a div table td tr li ul h1 x")...), "x", " ", "<br>")
	all := append(tagsOf(each(void, heads, blocks, forms, tabled, walls, "li dd dt option textarea html head body x y")...),
		"x", " ", "\r\n", "\x00", "\xe2\x82", "é", "&amp;", "<!--c-->", "<!doctype d>", "</>", "<", "<b k=1 l=2>", "<html k=1 m=2>", "<body k=1 l=3 m=4>", "<head k=1>", "<a k=5>")
	chance := rand.New(rand.NewPCG(3, 4))
	for i := range 8000 {
		parts, length := few, 40
		if i%2 == 0 {
			parts, length = all, 80
		}
		var page strings.Builder
		for range 1 + chance.IntN(length) {
			page.WriteString(parts[chance.IntN(len(parts))])
		}
		checkReferenceNodes(t, page.String(), 1+chance.IntN(9))
	}
}

// TestTreeDeepMixes has rows that are full, or nearly.
func TestTreeDeepMixes(t *testing.T) {
	t.Parallel()
	parts := append(tagsOf(each("b i p div table td tr x li ul textarea")...), "<x>", "<b>", "<table>", "<td>", "y", " ", "<br>")
	chance := rand.New(rand.NewPCG(5, 6))
	for range 3000 {
		var page strings.Builder
		for range 25 + chance.IntN(20) {
			page.WriteString([]string{"<x>", "<b>", "<div>", "<table><td>", "<i>"}[chance.IntN(5)])
		}
		for range chance.IntN(60) {
			page.WriteString(parts[chance.IntN(len(parts))])
		}
		checkReferenceNodes(t, page.String())
	}
}

func FuzzPage(f *testing.F) {
	for _, page := range []string{
		manySorts, "<ul><li>a<li><b>c</ul>d", "<table><tr><td><b>a</td>b<td>c</table>d", "<div><b><i></div></b><table><td>x</i>",
		"<title>a</title> <h1>b<h2>c</p><option><option><dl><dt><dd>", strings.Repeat("<b><p>", 25) + "x</p></b>y", "<a><div><a>x</br></a>",
	} {
		f.Add(page, 1)
	}
	f.Fuzz(func(t *testing.T, page string, size int) {
		if len(page) <= api.MaxBytes {
			checkReferenceNodes(t, page, size)
		} else if errno := folio.New().Feed(page); errno != api.ErrLarge {
			t.Fatalf("P4: Feed of %d bytes = %d", len(page), errno)
		}
	})
}
