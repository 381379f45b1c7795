package folio_test

import (
	"fmt"
	"math/rand/v2"
	"reflect"
	"strings"
	"testing"

	"folio/api"
	"folio/folio"
)

// plainDepth is how deep elements of a plain page may stand in body.
const plainDepth = 30

// checkPlain has a plain page's nodes written and fed, in pieces of so many bytes; it tells if what is written was not too long for that.
func checkPlain(t *testing.T, nodes []api.Node, size int) bool {
	t.Helper()
	text, errno := folio.Write(nodes)
	if errno != api.OK {
		t.Fatalf("P6: Write(%+v) = %d", nodes, errno)
	}
	if len(text) > api.MaxBytes {
		return false
	}
	page := fed(t, cut(text, size)...)
	if got := page.Nodes(); !reflect.DeepEqual(got, nodes) {
		t.Fatalf("P8: %q gives\n     %s\nwant %s", text, sketch(got, -1), sketch(nodes, -1))
	}
	if again, _ := folio.Write(page.Nodes()); again != text {
		t.Fatalf("P8: %q is written the second time, and first %q", again, text)
	}
	return true
}

func TestPlainPages(t *testing.T) {
	front := []api.Node{root(), element(0, "head"), element(0, "body")}
	titled := []api.Node{root(), element(0, "head", "a", "b"), element(1, "title", "c", `"`), words(2, " </titl> &amp; <p>\n"), element(0, "body", "d", "&")}
	for _, nodes := range [][]api.Node{
		front,
		titled,
		append(titled[:5:5], words(4, " \n<x>&lt;&#38;&amp\t "), element(4, "br"), words(4, "y")),
		append(front[:3:3], element(2, "div"), element(3, "ul"), element(4, "li"), words(5, "x"), element(4, "li"), element(7, "ul"), element(8, "li")),
		append(front[:3:3], element(2, "ul"), element(3, "li"), element(4, "div"), element(5, "span"), element(6, "b"), element(7, "i"), element(8, "b"), element(9, "br"), words(2, "z")),
		append(front[:3:3], element(2, "b"), element(2, "b"), element(4, "b"), element(2, "i"), words(2, "-->\"'=/")),
		append(front[:3:3], element(2, "span", "a", " ", "bc", "\"&quot;&amp;<>'\n\t", "class", "é\u00a0😀"), words(3, "\u00a0")),
		append(front[:3:3], element(2, "div"), element(2, "div"), element(4, "div"), element(2, "ul"), element(2, "ul")),
	} {
		for size := 1; size < 9; size++ {
			checkPlain(t, nodes, size)
		}
	}
}

func TestPlainPagesAtTheirLimits(t *testing.T) {
	for _, name := range each("div span b i") {
		nodes := []api.Node{root(), element(0, "head"), element(0, "body")}
		for range plainDepth {
			nodes = append(nodes, element(len(nodes)-1, name))
		}
		nodes = append(nodes, words(len(nodes)-1, "x"), words(2, "y"))
		checkPlain(t, nodes, api.MaxBytes)
	}
	full := element(2, "span")
	for i := range api.MaxAttrs {
		full.Attrs = append(full.Attrs, api.Attr{Name: strings.Repeat("a", i+1), Value: fmt.Sprint(i)})
	}
	front := []api.Node{root(), element(0, "head"), element(0, "body")}
	checkPlain(t, append(front[:3:3], full, words(3, "x"), full), 7)
	written := len("<html><head></head><body></body></html>")
	if !checkPlain(t, append(front[:3:3], words(2, strings.Repeat("x", api.MaxBytes-written))), 1000) {
		t.Errorf("P6: a page of %d bytes is written longer", api.MaxBytes)
	}
}

// plainMaker makes plain pages by chance.
type plainMaker struct {
	chance *rand.Rand
	nodes  []api.Node
}

func (m *plainMaker) put(node api.Node) int {
	m.nodes = append(m.nodes, node)
	return len(m.nodes) - 1
}

func (m *plainMaker) putElement(parent int, name string) int {
	node := element(parent, name)
	for i := range max(0, m.chance.IntN(8)-5) {
		name := string(rune('a'+m.chance.IntN(26))) + strings.Repeat("z", i)
		node.Attrs = append(node.Attrs, api.Attr{Name: name, Value: m.letters(4)})
	}
	return m.put(node)
}

func (m *plainMaker) letters(most int) string {
	parts := []string{" ", "\n", "\t", "\f", "x", "&", "<", ">", `"`, "'", "&amp;", "&lt", "</b>", "<br>", "<!--", "é", "\u00a0", "😀", "\u0085", no, "=", "/", ";", "#38;", "p", "\ufeff"}
	var out strings.Builder
	for range m.chance.IntN(most + 1) {
		out.WriteString(parts[m.chance.IntN(len(parts))])
	}
	return out.String()
}

func (m *plainMaker) putWords(parent int) {
	text := m.letters(6)
	if strings.Trim(text, "\t\n\f\r ") == "" {
		text += "w"
	}
	m.put(words(parent, text))
}

// fill puts things into an element that stands so deep in body.
func (m *plainMaker) fill(parent, depth int) {
	names := each("div span b i ul br br")
	switch m.nodes[parent].Name {
	case "ul":
		names = []string{"li"}
	case "span", "b", "i":
		names = each("span b i br")
	}
	wordsMay := m.nodes[parent].Name != "ul"
	for range m.chance.IntN(4) {
		if wordsMay && m.chance.IntN(3) == 0 {
			m.putWords(parent)
			wordsMay = false
			continue
		}
		if depth == plainDepth {
			continue
		}
		name := names[m.chance.IntN(len(names))]
		inner := m.putElement(parent, name)
		wordsMay = m.nodes[parent].Name != "ul"
		if name != "br" {
			m.fill(inner, depth+1)
		}
	}
}

func (m *plainMaker) make() []api.Node {
	m.nodes = []api.Node{root()}
	head := m.putElement(0, "head")
	if m.chance.IntN(2) == 0 {
		m.putWords(m.putElement(head, "title"))
	}
	m.fill(m.putElement(0, "body"), 0)
	return m.nodes
}

func TestPlainPagesByChance(t *testing.T) {
	t.Parallel()
	maker := plainMaker{chance: rand.New(rand.NewPCG(11, 12))}
	deepest, fit := 0, 0
	for range 6000 {
		nodes := maker.make()
		if checkPlain(t, nodes, 1+maker.chance.IntN(200)) {
			fit++
		}
		for i := range nodes {
			deep := 0
			for at := nodes[i].Parent; at > 0; at = nodes[at].Parent {
				deep++
			}
			deepest = max(deepest, deep)
		}
	}
	if fit < 3000 || deepest < plainDepth-5 {
		t.Errorf("of 6000 pages %d are short enough, the deepest node is at %d: too few of some sort", fit, deepest)
	}
}
