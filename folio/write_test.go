package folio_test

import (
	"fmt"
	"reflect"
	"runtime"
	"strings"
	"testing"
	"unsafe"

	"folio/api"
	"folio/folio"
)

// root is node 0 of a tree.
func root() api.Node { return element(-1, "html") }

// checkWrite holds what is written of the nodes behind node 0.
func checkWrite(t *testing.T, want string, nodes ...api.Node) {
	t.Helper()
	nodes = append([]api.Node{root()}, nodes...)
	want = "<html>" + want + "</html>"
	if got, errno := folio.Write(nodes); got != want || errno != api.OK {
		t.Errorf("P6: Write(%+v) = %q, %d, want %q", nodes, got, errno, want)
	}
}

func checkNoTree(t *testing.T, nodes ...api.Node) {
	t.Helper()
	if got, errno := folio.Write(nodes); got != "" || errno != api.ErrTree {
		t.Errorf("P6: Write(%+v) = %q, %d, want ErrTree alone", nodes, got, errno)
	}
}

func TestWriteOrdinary(t *testing.T) {
	checkWrite(t, "")
	checkWrite(t, "<head></head><body><p>x</p></body>", element(0, "head"), element(0, "body"), element(2, "p"), words(3, "x"))
	checkWrite(t, "<a><b>x<!--y--></b>z</a><c></c>w", element(0, "a"), element(1, "b"), words(2, "x"), remark(2, "y"), words(1, "z"), element(0, "c"), words(0, "w"))
	for page, want := range map[string]string{
		"":                        "<html><head></head><body></body></html>",
		"<ul><li>a<li><b>c</ul>d": "<html><head></head><body><ul><li>a</li><li><b>c</b></li></ul><b>d</b></body></html>",
		"<html a=1><title>T</title><body b><p>x<br/>y": `<html a="1"><head><title>T</title></head><body b=""><p>x<br>y</p></body></html>`,
	} {
		if got, errno := folio.Write(fed(t, page).Nodes()); got != want || errno != api.OK {
			t.Errorf("P6: of %q %q is written, %d, want %q", page, got, errno, want)
		}
	}
}

func TestWriteElements(t *testing.T) {
	for _, name := range each(void) {
		checkWrite(t, "<"+name+">", element(0, name))
		checkWrite(t, "<"+name+` a="b">x<`+name+">", element(0, name, "a", "b"), words(0, "x"), element(0, name))
		checkWrite(t, "<"+strings.ToUpper(name)+">x</"+strings.ToUpper(name)+">", element(0, strings.ToUpper(name)), words(1, "x"))
	}
	for _, name := range each(blocks, forms, tabled, "script style title textarea html head body x é") {
		checkWrite(t, "<"+name+"></"+name+">", element(0, name))
		checkWrite(t, "<"+name+`><i></i></`+name+">x", element(0, name), element(1, "i"), words(0, "x"))
	}
	checkWrite(t, "<></>", element(0, ""))
	checkWrite(t, "<a b></a b>", element(0, "a b"))
}

func TestWriteAttributes(t *testing.T) {
	checkWrite(t, `<p a="1" b="" c="x y"></p>`, element(0, "p", "a", "1", "b", "", "c", "x y"))
	checkWrite(t, `<p a="&amp;&quot;<>'"></p>`, element(0, "p", "a", `&"<>'`))
	checkWrite(t, `<p a="&amp;amp;&amp;quot;"></p>`, element(0, "p", "a", "&amp;&quot;"))
	checkWrite(t, `<p a="&amp;&amp;" b="&quot;&quot;"></p>`, element(0, "p", "a", "&&", "b", `""`))
	checkWrite(t, "<p a=\"\n\t\u00a0é\x00\r\xff\"></p>", element(0, "p", "a", "\n\t\u00a0é\x00\r\xff"))
	checkWrite(t, `<p a="1" a="2" ="3"></p>`, element(0, "p", "a", "1", "a", "2", "", "3"))
	checkWrite(t, `<p &"="1"></p>`, element(0, "p", `&"`, "1"))
	checkWrite(t, `<script a="&amp;&quot;"></script>`, element(0, "script", "a", `&"`))
	if got, errno := folio.Write([]api.Node{element(-1, "html", "a", "&")}); got != `<html a="&amp;"></html>` || errno != api.OK {
		t.Errorf("P6: html with an attribute: %q, %d", got, errno)
	}
}

func TestWriteWords(t *testing.T) {
	checkWrite(t, "x", words(0, "x"))
	checkWrite(t, "", words(0, ""))
	checkWrite(t, "ab", words(0, "a"), words(0, "b"))
	checkWrite(t, "&amp;&lt;&gt;\"'", words(0, `&<>"'`))
	checkWrite(t, "&amp;amp;&amp;lt;&amp;gt;", words(0, "&amp;&lt;&gt;"))
	checkWrite(t, "&lt;p&gt;&amp;&amp;&lt;&lt;&gt;&gt;", words(0, "<p>&&<<>>"))
	checkWrite(t, "\n \u00a0é😀\x00\r\xff\xe2\x82", words(0, "\n \u00a0é😀\x00\r\xff\xe2\x82"))
	for _, name := range each("p title textarea head SCRIPT Style scripts noscript x") {
		checkWrite(t, "<"+name+">a&lt;b&gt;&amp;</"+name+">", element(0, name), words(1, "a<b>&"))
	}
}

func TestWriteScriptAndStyle(t *testing.T) {
	for _, name := range []string{"script", "style"} {
		open, close := "<"+name+">", "</"+name+">"
		checkWrite(t, open+"a<b>&c"+close, element(0, name), words(1, "a<b>&c"))
		checkWrite(t, open+"<</"+name+">&amp;"+close+"&lt;", element(0, name), words(1, "<</"+name+">"), words(1, "&amp;"), words(0, "<"))
		checkWrite(t, open+"<i>&lt;</i><"+close, element(0, name), element(1, "i"), words(2, "<"), words(1, "<"))
		checkWrite(t, open+"<i><script><</script>&gt;</i>"+close, element(0, name), element(1, "i"), element(2, "script"), words(3, "<"), words(2, ">"))
		checkWrite(t, open+"<br>&<!--<-->"+close, element(0, name), element(1, "br"), words(1, "&"), remark(1, "<"))
	}
	// Words that have a name stand in no script for that.
	checkWrite(t, "&lt;", api.Node{Kind: api.Words, Parent: 0, Name: "script", Text: "<"})
}

func TestWriteRemarks(t *testing.T) {
	checkWrite(t, "<!-- x -->", remark(0, " x "))
	checkWrite(t, "<!---->", remark(0, ""))
	checkWrite(t, "<!--&<>\"--><!---->x", remark(0, `&<>"`), remark(0, ""), words(0, "x"))
	checkWrite(t, "<!---->-->", remark(0, "-->"))
}

// TestWriteWhatIsNotNamed gives nodes fields that their kind has not.
func TestWriteWhatIsNotNamed(t *testing.T) {
	attrs := []api.Attr{{Name: "a", Value: "b"}}
	checkWrite(t, "<p></p>xy", api.Node{Kind: api.Element, Name: "p", Text: "text"},
		api.Node{Kind: api.Words, Name: "br", Text: "x", Attrs: attrs}, api.Node{Kind: api.Words, Name: "p", Text: "y"})
	checkWrite(t, "<!--x-->", api.Node{Kind: api.Remark, Name: "p", Text: "x", Attrs: attrs})
}

func TestWriteNoTree(t *testing.T) {
	checkNoTree(t)
	if got, errno := folio.Write([]api.Node{}); got != "" || errno != api.ErrTree {
		t.Errorf("P6: of an empty list: %q, %d", got, errno)
	}
	for _, node := range []api.Node{
		{}, words(-1, "html"), remark(-1, "html"), {Kind: api.Words, Parent: -1, Name: "html"}, {Kind: api.Remark, Parent: -1, Name: "html"},
		{Kind: 0, Parent: -1, Name: "html"}, {Kind: 4, Parent: -1, Name: "html"}, {Kind: -1, Parent: -1, Name: "html"},
		element(-1, "body"), element(-1, ""), element(-1, "HTML"), element(-1, "html "), element(-1, "br"),
		element(0, "html"), element(1, "html"), element(-2, "html"),
	} {
		checkNoTree(t, node)
		checkNoTree(t, node, words(0, "x"))
	}
}

func TestWriteParents(t *testing.T) {
	for _, parent := range []int{-1 << 63, -2, -1, 1, 2, 3, 1<<63 - 1} {
		for _, node := range []api.Node{element(parent, "p"), words(parent, "x"), remark(parent, "x"), element(parent, "html")} {
			checkNoTree(t, root(), node)
			checkNoTree(t, root(), node, words(0, "y"))
		}
	}
	// Around: html (a (b (c))), d.
	front := []api.Node{root(), element(0, "a"), element(1, "b"), element(2, "c")}
	for parent, want := range []string{"<a><b><c></c></b></a>x", "<a><b><c></c></b>x</a>", "<a><b><c></c>x</b></a>", "<a><b><c>x</c></b></a>"} {
		checkWrite(t, want, append(front[1:len(front):len(front)], words(parent, "x"))...)
	}
	behind := append(front, element(0, "d"))
	for parent := 1; parent < 4; parent++ {
		checkNoTree(t, append(behind[:len(behind):len(behind)], words(parent, "x"))...)
	}
	checkWrite(t, "<a><b><c></c></b></a><d>x</d>y", append(behind[1:len(behind):len(behind)], words(4, "x"), words(0, "y"))...)
	checkNoTree(t, append(behind, words(0, "x"), words(4, "y"))...)
	checkNoTree(t, root(), element(0, "a"), words(1, "x"), words(0, "y"), words(1, "z"))
	checkNoTree(t, root(), element(2, "a"), element(1, "b"))
}

func TestWriteWhatNothingStandsIn(t *testing.T) {
	for _, name := range each(void) {
		for _, node := range []api.Node{element(1, "p"), words(1, ""), words(1, "x"), remark(1, ""), element(1, name)} {
			checkNoTree(t, root(), element(0, name), node)
		}
	}
	for _, outer := range []api.Node{words(0, "x"), remark(0, "x"), {Kind: api.Words, Name: "p"}, {Kind: api.Remark, Name: "html"}} {
		for _, node := range []api.Node{element(1, "p"), words(1, "x"), remark(1, "x")} {
			checkNoTree(t, root(), outer, node)
		}
	}
}

func TestWriteKinds(t *testing.T) {
	for kind := -3; kind <= 9; kind++ {
		node := api.Node{Kind: kind, Parent: 0, Name: "p", Text: "x"}
		switch kind {
		case api.Element:
			checkWrite(t, "<p></p>", node)
		case api.Words:
			checkWrite(t, "x", node)
		case api.Remark:
			checkWrite(t, "<!--x-->", node)
		default:
			checkNoTree(t, root(), node)
			checkNoTree(t, root(), node, words(0, "y"))
			checkNoTree(t, root(), element(0, "p"), words(1, "y"), node)
		}
	}
}

// TestWriteLimits has trees that no page gives: the limits are of pages.
func TestWriteLimits(t *testing.T) {
	long := strings.Repeat("x", api.MaxBytes+1)
	checkWrite(t, long, words(0, long))
	checkWrite(t, "<!--"+long+"-->", remark(0, long))
	checkWrite(t, "<"+long+"></"+long+">", element(0, long))
	many, written := element(0, "p"), "<p"
	for i := range 3 * api.MaxAttrs {
		many.Attrs = append(many.Attrs, api.Attr{Name: fmt.Sprint("a", i), Value: "v"})
		written += fmt.Sprintf(` a%d="v"`, i)
	}
	checkWrite(t, written+"></p>", many)
	const deep = 300000
	var nodes []api.Node
	for i := range deep {
		nodes = append(nodes, element(i, "b"))
	}
	got, errno := folio.Write(append([]api.Node{root()}, nodes...))
	if want := "<html>" + strings.Repeat("<b>", deep) + strings.Repeat("</b>", deep) + "</html>"; got != want || errno != api.OK {
		t.Errorf("P6: %d elements in each other: %d bytes, %d, want %d", deep, len(got), errno, len(want))
	}
	for i := range nodes {
		nodes[i] = element(0, "b")
	}
	got, errno = folio.Write(append([]api.Node{root()}, nodes...))
	if want := "<html>" + strings.Repeat("<b></b>", deep) + "</html>"; got != want || errno != api.OK {
		t.Errorf("P6: %d elements beside each other: %d bytes, %d, want %d", deep, len(got), errno, len(want))
	}
	checkFullPage(t)
}

func checkFullPage(t *testing.T) {
	t.Helper()
	page := strings.Repeat("<p>&", api.MaxBytes/4)
	want := "<html><head></head><body>" + strings.Repeat("<p>&amp;</p>", api.MaxBytes/4) + "</body></html>"
	if got, errno := folio.Write(fed(t, page).Nodes()); got != want || errno != api.OK {
		t.Errorf("P6: of a full page: %d bytes, %d, want %d", len(got), errno, len(want))
	}
}

// copied gives lists of their own, with as much behind them, all of it marked.
func copied(nodes []api.Node) (list, whole []api.Node) {
	mark := api.Attr{Name: "behind", Value: "behind"}
	for _, node := range nodes {
		attrs := append([]api.Attr(nil), node.Attrs...)
		node.Attrs = append(attrs, mark, mark)[:len(attrs)]
		whole = append(whole, node)
	}
	whole = append(whole, api.Node{Kind: 7, Parent: 7, Name: "behind"}, api.Node{Kind: 8, Text: "behind"})
	return whole[:len(nodes)], whole
}

// withSpare gives the nodes with all that stands behind their attributes.
func withSpare(nodes []api.Node) []api.Node {
	var all []api.Node
	for _, node := range nodes {
		node.Attrs = append([]api.Attr(nil), node.Attrs[:cap(node.Attrs)]...)
		all = append(all, node)
	}
	return all
}

func TestWriteChangesNothing(t *testing.T) {
	for _, nodes := range [][]api.Node{
		fed(t, manySorts).Nodes(),
		{root(), element(0, "p", "a", `"&`), words(1, "<&>")},
		{root(), element(0, "p", "a", "1"), element(5, "q", "b", "2")},
		{root(), element(0, "br", "a", "1"), words(1, "x")},
		nil,
	} {
		list, whole := copied(nodes)
		before := withSpare(whole)
		for range 2 {
			folio.Write(list)
			if after := withSpare(whole); !reflect.DeepEqual(after, before) {
				t.Errorf("P1: Write changed what was handed in: %+v, want %+v", after, before)
			}
		}
	}
}

func TestWriteKeepsNothing(t *testing.T) {
	bytes := []byte("abc")
	word := unsafe.String(&bytes[0], len(bytes))
	nodes := []api.Node{root(), element(0, word, word, word), words(1, word), remark(1, word)}
	const want = `<html><abc abc="abc">abc<!--abc--></abc></html>`
	got, _ := folio.Write(nodes)
	copy(bytes, "xyz")
	spoil(nodes)
	if got != want {
		t.Errorf("P1: Write's text hangs on what was handed in: %q, want %q", got, want)
	}
	checkWrite(t, "<p></p>", element(0, "p"))
}

func TestWriteLeavesNoGoroutine(t *testing.T) {
	before := runtime.NumGoroutine()
	for range 50 {
		folio.Write([]api.Node{root(), words(0, "x")})
		folio.Write([]api.Node{root(), words(1, "x")})
	}
	if after := runtime.NumGoroutine(); after > before {
		t.Errorf("P1: %d goroutines, %d ahead of the calls", after, before)
	}
}
