package folio_test

import (
	"fmt"
	"reflect"
	"strings"
	"testing"

	"folio/api"
)

const (
	void     = "area base br col embed hr img input link meta source track wbr"
	heads    = "base link meta script style title"
	blocks   = "address article aside blockquote center details dialog dir div dl fieldset figcaption figure footer form h1 h2 h3 h4 h5 h6 header hgroup main menu nav ol p pre section summary table ul"
	headings = "h1 h2 h3 h4 h5 h6"
	forms    = "a b big code em font i nobr s small strike strong tt u"
	tabled   = "caption table tbody td tfoot th thead tr"
	walls    = "body caption html table td th"
	ordinary = "span x label select button svg object iframe noscript template frameset h7 ad-hoc li2 tablé"
)

func each(sorts ...string) []string { return strings.Fields(strings.Join(sorts, " ")) }

// sketch tells in a line what stands in a node: p b="c"('words' !'remark' br).
func sketch(nodes []api.Node, parent int) string {
	var parts []string
	for i, node := range nodes {
		if node.Parent != parent {
			continue
		}
		switch node.Kind {
		case api.Element:
			parts = append(parts, sketchElement(nodes, i))
		case api.Words:
			parts = append(parts, "'"+node.Text+"'")
		case api.Remark:
			parts = append(parts, "!'"+node.Text+"'")
		default:
			parts = append(parts, fmt.Sprintf("%+v", node))
		}
	}
	return strings.Join(parts, " ")
}

func sketchElement(nodes []api.Node, i int) string {
	out := nodes[i].Name
	for _, attr := range nodes[i].Attrs {
		out += fmt.Sprintf(" %s=%q", attr.Name, attr.Value)
	}
	if inner := sketch(nodes, i); inner != "" {
		out += "(" + inner + ")"
	}
	return out
}

type treeCase struct{ page, want string }

// checkTrees holds what stands in html against what is wanted.
func checkTrees(t *testing.T, cases []treeCase) {
	t.Helper()
	for _, c := range cases {
		nodes := fed(t, c.page).Nodes()
		if got := sketch(nodes, 0); got != c.want {
			t.Errorf("P4: %q:\n got %s\nwant %s", c.page, got, c.want)
		}
		checkShape(t, c.page, nodes)
	}
}

// checkBodies holds what stands in body, behind an empty head.
func checkBodies(t *testing.T, cases []treeCase) {
	t.Helper()
	for _, c := range cases {
		want := "head body(" + c.want + ")"
		if c.want == "" {
			want = "head body"
		}
		checkTrees(t, []treeCase{{c.page, want}})
	}
}

// checkShape looks for what is true of every tree.
func checkShape(t *testing.T, page string, nodes []api.Node) {
	t.Helper()
	depth := make([]int, len(nodes))
	var inHTML []string
	for i, node := range nodes {
		switch {
		case i == 0:
			if node.Kind != api.Element || node.Name != "html" || node.Parent != -1 {
				t.Errorf("P4: %q: node 0 is %+v", page, node)
			}
			continue
		case node.Parent < 0 || node.Parent >= i || !standsIn(nodes, i-1, node.Parent):
			t.Fatalf("P4: %q: node %d is out of order: %+v", page, i, nodes)
		}
		depth[i] = depth[node.Parent] + 1
		parent := nodes[node.Parent]
		if parent.Kind != api.Element || isOneOf(parent.Name, void) {
			t.Errorf("P7: %q: node %d stands in %+v", page, i, parent)
		}
		if node.Kind == api.Words && nodes[i-1].Kind == api.Words && nodes[i-1].Parent == node.Parent {
			t.Errorf("P7: %q: words beside words: %q, %q", page, nodes[i-1].Text, node.Text)
		}
		if node.Kind == api.Element && depth[i] > api.MaxDepth {
			t.Errorf("P7: %q: node %d is %d deep", page, i, depth[i])
		}
		if node.Parent == 0 && node.Kind != api.Remark {
			inHTML = append(inHTML, node.Name)
		}
		checkFields(t, page, node)
	}
	if !reflect.DeepEqual(inHTML, []string{"head", "body"}) {
		t.Errorf("P4: %q: in html stand %q", page, inHTML)
	}
}

// standsIn is true if node i is node around, or stands in it.
func standsIn(nodes []api.Node, i, around int) bool {
	for i > around {
		i = nodes[i].Parent
	}
	return i == around
}

func checkFields(t *testing.T, page string, node api.Node) {
	t.Helper()
	ok := false
	switch node.Kind {
	case api.Element:
		ok = node.Name != "" && node.Text == "" && len(node.Attrs) <= api.MaxAttrs
	case api.Words:
		ok = node.Name == "" && node.Text != "" && node.Attrs == nil
	case api.Remark:
		ok = node.Name == "" && node.Attrs == nil
	}
	if !ok {
		t.Errorf("P1: %q: a node %+v", page, node)
	}
}

func isOneOf(name, sort string) bool { return strings.Contains(" "+sort+" ", " "+name+" ") }

func TestTreeInFront(t *testing.T) {
	checkTrees(t, []treeCase{
		{"", "head body"},
		{" \t\n\f\r&#13;&#9; ", "head body"},
		{"<!doctype html>", "head body"},
		{"<!--a--><!doctype x> <!--b-->", "!'a' !'b' head body"},
		{"<!----><p>", "!'' head body(p)"},
		{"<html> <!--a--></html>", "!'a' head body"},
		{"x<!--a--><!doctype y>z", "head body('x' !'a' 'z')"},
		{"<!--a--><html><!--b--><head><!--c--></head><!--d--><body><!--e--></body><!--f--></html><!--g-->", "!'a' !'b' head(!'c') body(!'d' !'e' !'f' !'g')"},
	})
}

func TestTreeTextAheadOfTheBody(t *testing.T) {
	checkTrees(t, []treeCase{
		{"x", "head body('x')"},
		{" \t\n\f x \n", "head body('x \n')"},
		{"&#32;&#13;x", "head body('x')"},
		{"\u00a0x", "head body('\u00a0x')"},
		{"\v", "head body('\v')"},
		{"<head> \n", "head body"},
		{"<head> \n x ", "head body('x ')"},
		{" <html> <head> <title> a </title> <meta> x", "head(title(' a ') meta) body('x')"},
		{"<head></head> \n", "head body(' \n')"},
		{"<body> x", "head body(' x')"},
		{" </> x", "head body('x')"},
		{" <!--a--> <!--b-->", "!'a' !'b' head body"},
		{" </b> x", "head body('x')"},
	})
}

func TestTreeHeads(t *testing.T) {
	for _, name := range each(heads) {
		void := isOneOf(name, void)
		close, inner := "</"+name+">", "(' a ')"
		if void {
			close, inner = "", ""
		}
		tag := "<" + name + " b=1>"
		if !void {
			tag += " a "
		}
		element := name + " b=\"1\"" + inner
		checkTrees(t, []treeCase{
			{tag, "head(" + element + ") body"},
			{tag + close + tag + close + " x", "head(" + element + " " + element + ") body('x')"},
			{"<head c=2> " + tag + close + "<!--d--><p>", "head c=\"2\"(" + element + " !'d') body(p)"},
			{"</head>" + tag + close + "x", "head body(" + element + " 'x')"},
			{"y" + tag + close + "x", "head body('y' " + element + " 'x')"},
			{"<p>" + tag + close + "x", "head body(p(" + element + " 'x'))"},
		})
	}
	checkTrees(t, []treeCase{
		{"<title>a<p>b</title>c", "head(title('a<p>b')) body('c')"},
		{"<title></title><title>a", "head(title title('a')) body"},
		{"<style>&lt;</style><script> </script>", "head(style('&lt;') script(' ')) body"},
		{"<script/>a</script>b", "head(script('a')) body('b')"},
		{"<textarea> a", "head body(textarea(' a'))"},
		{"<title>a</title><textarea> \n</textarea>b", "head(title('a')) body(textarea(' \n') 'b')"},
	})
}

func TestTreeHead(t *testing.T) {
	checkTrees(t, []treeCase{
		{"<head a=1 b=2>", "head a=\"1\" b=\"2\" body"},
		{"<head a=1><head b=2><meta>", "head a=\"1\"(meta) body"},
		{"<meta><head b=2>", "head(meta) body"},
		{"<body><head b=2>x", "head body('x')"},
		{"x<head b=2>y", "head body('xy')"},
		{"</head><head b=2>", "head body"},
		{"<head></head></head><!--a-->", "head body(!'a')"},
		{"<head/><meta>", "head(meta) body"},
	})
}

func TestTreeAttributesOfHTMLAndBody(t *testing.T) {
	for _, c := range []struct {
		page       string
		html, body string
	}{
		{"<html a=1 b=2>", "html a=1 b=2", "body"},
		{"<html a=1><html b=2 a=3 c=4><html c=5 d=6>", "html a=1 b=2 c=4 d=6", "body"},
		{"<html a=1><body c=3><html b=2 a=3>", "html a=1 b=2", "body c=3"},
		{"<p><html b=2 a=3>", "html b=2 a=3", "body"},
		{"<head><html a=1>", "html a=1", "body"},
		{"<body a=1 b=2>", "html", "body a=1 b=2"},
		{"<body a=1><body b=2 a=3>", "html", "body a=1 b=2"},
		{"x<body a=1>", "html", "body a=1"},
		{"<table><td><body a=1><html a=2>", "html a=2", "body a=1"},
		{"<body a=1></body><body b=2></html><html c=3>", "html c=3", "body a=1 b=2"},
		{"<html a><html a=1>", "html a=", "body"},
	} {
		nodes := fed(t, c.page).Nodes()
		for _, node := range nodes {
			want := c.html
			switch node.Name {
			case "html":
			case "body":
				want = c.body
			default:
				continue
			}
			got := node.Name
			for _, attr := range node.Attrs {
				got += " " + attr.Name + "=" + attr.Value
			}
			if got != want {
				t.Errorf("P4: %q: %s, want %s", c.page, got, want)
			}
		}
	}
	checkTrees(t, []treeCase{
		{"<html><meta><p>", "head(meta) body(p)"},
		{"<html>  <!--a--><html>x", "!'a' head body('x')"},
		{"<p>x<body>y", "head body(p('xy'))"},
		{"<p>x<html>y", "head body(p('xy'))"},
		{"<body> <!--a--><meta>", "head body(' ' !'a' meta)"},
	})
}

// numbered gives attributes from one number up to another.
func numbered(front string, from, to int) string {
	out := ""
	for i := from; i <= to; i++ {
		out += fmt.Sprintf(" %s%d=%d", front, i, i)
	}
	return out
}

func TestTreeMaxAttrs(t *testing.T) {
	for _, name := range []string{"html", "body"} {
		for _, c := range []struct{ page, want string }{
			{"<_" + numbered("a", 1, 20) + ">", numbered("a", 1, 20)},
			{"<_" + numbered("a", 1, 25) + ">", numbered("a", 1, 20)},
			{"<_" + numbered("a", 1, 19) + "><_ a1=9 b=9 c=9>", numbered("a", 1, 19) + " b=9"},
			{"<_" + numbered("a", 1, 20) + "><_ b=9>", numbered("a", 1, 20)},
			{"<_" + numbered("a", 1, 15) + "><_" + numbered("a", 11, 30) + "><_ b=1>", numbered("a", 1, 20)},
			{"<_" + numbered("a", 1, 18) + "><_ b=1><_ c=1><_ d=1>", numbered("a", 1, 18) + " b=1 c=1"},
		} {
			page := strings.ReplaceAll(c.page, "_", name)
			for _, node := range fed(t, page).Nodes() {
				if node.Name != name {
					continue
				}
				got := ""
				for _, attr := range node.Attrs {
					got += " " + attr.Name + "=" + attr.Value
				}
				if got != c.want {
					t.Errorf("P4: %q: %s has%s, want%s", page, name, got, c.want)
				}
			}
		}
	}
	p := fed(t, "<p"+numbered("a", 1, 21)+">x").Nodes()[3]
	if want := start("", each(strings.ReplaceAll(numbered("a", 1, 20), "=", " "))...).Attrs; !reflect.DeepEqual(p.Attrs, want) {
		t.Errorf("P4: p has %v, want %v", p.Attrs, want)
	}
}

func TestTreeVoid(t *testing.T) {
	for _, name := range each(void) {
		checkBodies(t, []treeCase{
			{"x<" + name + ">y", "'x' " + name + " 'y'"},
			{"x<" + name + "/>y<" + name + ">", "'x' " + name + " 'y' " + name},
			{"<p>x<" + name + " a=1>y<p>z", "p('x' " + name + " a=\"1\" 'y') p('z')"},
			{"<div><b>x</div><" + name + ">y", "div(b('x')) b(" + name + " 'y')"},
		})
		if name != "br" {
			checkBodies(t, []treeCase{{"x<" + name + "></" + name + ">y", "'x' " + name + " 'y'"}})
		}
	}
	checkBodies(t, []treeCase{
		{"<br></br>", "br br"},
		{"x</br a=1>y", "'x' br 'y'"},
		{"</br>x", "br 'x'"},
		{"<div><b>x</div></br>y", "div(b('x')) b(br 'y')"},
		{"<p>x</br>y", "p('x' br 'y')"},
		{"<p>x<hr>y", "p('x' hr 'y')"},
		{"<b/>x<p/>y", "b('x' p('y'))"},
	})
}

func TestTreeTexts(t *testing.T) {
	checkBodies(t, []treeCase{
		{"x</y>z", "'xz'"},
		{"x<td>y</b>z", "'xyz'"},
		{"x<!--a-->y", "'x' !'a' 'y'"},
		{"<p>x</p>y<p>z", "p('x') 'y' p('z')"},
		{"<p> </p> <p>", "p(' ') ' ' p"},
		{"x<i>y</i>z", "'x' i('y') 'z'"},
		{"x<!doctype y>z", "'xz'"},
		{"x<script>y</script>z", "'x' script('y') 'z'"},
		{"<x><title>&lt;</title><style>&lt;</style><textarea>&lt;</textarea>y", "x(title('<') style('&lt;') textarea('<') 'y')"},
		{"<pre>\n x\n</pre>", "pre('\n x\n')"},
	})
}
