package folio_test

import (
	"math/rand/v2"
	"regexp"
	"slices"
	"strings"
	"testing"

	"folio/api"
	"folio/folio"
)

// What follows reads P5 and P6 from the document a second time: by patterns, by lists of what stands in a node, and by going into these.
var (
	addressPattern = regexp.MustCompile(`(?s)^(?:([a-zA-Z][a-zA-Z0-9+.\-]*):)?(?://([^/?#]*))?([^?#]*)(?:\?([^#]*))?(?:#(.*))?$`)
	folderPattern  = regexp.MustCompile(`(?s)^.*/`)
	gapPattern     = regexp.MustCompile(`[\t\n\f\r \x00]+`)
)

const (
	noScheme = iota
	scheme
	host
	path
	query
	mark
)

// partsOf gives the parts of an address by their numbers, nil where there is none.
func partsOf(address string) [6]*string {
	var parts [6]*string
	at := addressPattern.FindStringSubmatchIndex(address)
	for i := scheme; i <= mark; i++ {
		if at[2*i] >= 0 {
			text := address[at[2*i]:at[2*i+1]]
			parts[i] = &text
		}
	}
	return parts
}

func referenceResolve(base, reference string) string {
	b, r := partsOf(base), partsOf(reference)
	out := r
	switch {
	case r[scheme] != nil:
	case r[host] != nil:
		out[scheme] = b[scheme]
	default:
		out[scheme], out[host] = b[scheme], b[host]
		folder := folderPattern.FindString(*b[path])
		switch {
		case *r[path] == "" && r[query] == nil:
			out[path], out[query] = b[path], b[query]
		case *r[path] == "":
			out[path] = b[path]
		case (*r[path])[0] == '/':
		case b[host] != nil && *b[path] == "":
			folder = "/"
			fallthrough
		default:
			whole := folder + *r[path]
			out[path] = &whole
		}
		if *r[path] == "" {
			return joined(out)
		}
	}
	made := referencePlain(*out[path])
	out[path] = &made
	return joined(out)
}

func joined(parts [6]*string) string {
	out := ""
	for i, signs := range [6][2]string{scheme: {"", ":"}, host: {"//", ""}, query: {"?", ""}, mark: {"#", ""}} {
		if parts[i] != nil {
			out += signs[0] + *parts[i] + signs[1]
		}
	}
	return out
}

// referencePlain leaves the dots out one by one, always the first that there is.
func referencePlain(path string) string {
	parts := strings.Split(path, "/")
	last := parts[len(parts)-1]
	for {
		i := slices.IndexFunc(parts, func(part string) bool { return part == "." || part == ".." })
		if i < 0 {
			break
		}
		from := i
		if parts[i] == ".." && i > 0 && !(i == 1 && parts[0] == "") {
			from = i - 1
		}
		parts = slices.Delete(parts, from, i+1)
	}
	if (last == "." || last == "..") && len(parts) > 0 {
		parts = append(parts, "")
	}
	return strings.Join(parts, "/")
}

// referenceText marks a break by a letter 0, which no page has.
func referenceText(nodes []api.Node, parent int, hidden bool) string {
	out := ""
	for i, node := range nodes {
		if node.Parent != parent {
			continue
		}
		inner := referenceText(nodes, i, hidden || isOneOf(node.Name, "head script style textarea"))
		switch {
		case node.Kind == api.Words && !hidden:
			out += node.Text
		case isOneOf(node.Name, blocks+" li dd dt tr"):
			out += "\x00" + inner + "\x00"
		case isOneOf(node.Name, "br hr"):
			out += "\x00"
		case isOneOf(node.Name, "td th"):
			out += " " + inner
		default:
			out += inner
		}
	}
	return out
}

func squeezed(text string) string {
	text = gapPattern.ReplaceAllStringFunc(text, func(gap string) string {
		if strings.Contains(gap, "\x00") {
			return "\n"
		}
		return " "
	})
	return strings.Trim(text, "\n ")
}

func referenceTitle(nodes []api.Node) string {
	for i, node := range nodes {
		if node.Name == "title" {
			out := ""
			for k, inner := range nodes {
				if inner.Kind == api.Words && standsIn(nodes, k, i) {
					out += inner.Text
				}
			}
			return squeezed(out)
		}
	}
	return ""
}

func referenceLinks(nodes []api.Node, address string) []string {
	base, found := address, false
	var links []string
	for _, sort := range []string{"base", "a area"} {
		for _, node := range nodes {
			for _, attr := range node.Attrs {
				href := strings.Trim(attr.Value, "\t\n\f\r ")
				switch {
				case attr.Name != "href" || !isOneOf(node.Name, sort):
				case sort != "base":
					links = append(links, referenceResolve(base, href))
				case !found:
					base, found = referenceResolve(address, href), true
				}
			}
		}
	}
	return links
}

// isTree looks for each node's parent among all that the node ahead of it stands in.
func isTree(nodes []api.Node) bool {
	for i, node := range nodes {
		if node.Kind < 1 || node.Kind > 3 {
			return false
		}
		if i == 0 {
			if node.Kind != api.Element || node.Name != "html" || node.Parent != -1 {
				return false
			}
			continue
		}
		around := i - 1
		for around >= 0 && around != node.Parent {
			around = nodes[around].Parent
		}
		if around < 0 || nodes[around].Kind != api.Element || isOneOf(nodes[around].Name, void) {
			return false
		}
	}
	return len(nodes) > 0
}

func referenceWrite(nodes []api.Node, parent int) string {
	out := ""
	for i, node := range nodes {
		switch {
		case node.Parent != parent:
		case node.Kind == api.Remark:
			out += "<!--" + node.Text + "-->"
		case node.Kind == api.Words && isOneOf(nodes[parent].Name, "script style"):
			out += node.Text
		case node.Kind == api.Words:
			out += strings.NewReplacer("&", "&amp;", "<", "&lt;", ">", "&gt;").Replace(node.Text)
		default:
			out += "<" + node.Name
			for _, attr := range node.Attrs {
				out += " " + attr.Name + `="` + strings.NewReplacer("&", "&amp;", `"`, "&quot;").Replace(attr.Value) + `"`
			}
			out += ">"
			if !isOneOf(node.Name, void) {
				out += referenceWrite(nodes, i) + "</" + node.Name + ">"
			}
		}
	}
	return out
}

func checkReferenceResolve(t *testing.T, base, reference string) {
	t.Helper()
	if got, want := folio.Resolve(base, reference), referenceResolve(base, reference); got != want {
		t.Fatalf("P5: Resolve(%q, %q) = %q, want %q", base, reference, got, want)
	}
}

func checkReferenceWrite(t *testing.T, nodes []api.Node) {
	t.Helper()
	want, wantErrno := "", api.ErrTree
	if isTree(nodes) {
		want, wantErrno = referenceWrite(nodes, -1), api.OK
	}
	if got, errno := folio.Write(nodes); got != want || errno != wantErrno {
		t.Fatalf("P6: Write(%+v) = %q, %d, want %q, %d", nodes, got, errno, want, wantErrno)
	}
}

func checkReferenceReading(t *testing.T, bytes, address string) {
	t.Helper()
	page := fed(t, bytes)
	nodes := page.Nodes()
	if got, want := page.Title(), referenceTitle(nodes); got != want {
		t.Fatalf("P5: the title of %q is %q, want %q", bytes, got, want)
	}
	if got, want := page.Text(), squeezed(referenceText(nodes, -1, false)); got != want {
		t.Fatalf("P5: the text of %q is %q, want %q", bytes, got, want)
	}
	if got, want := page.Links(address), referenceLinks(nodes, address); !slices.Equal(got, want) {
		t.Fatalf("P5: the links of %q at %q are %q, want %q", bytes, address, got, want)
	}
	checkReferenceWrite(t, nodes)
}

func TestResolveRowsOfParts(t *testing.T) {
	t.Parallel()
	bases := []string{"", "a", "a/b", "/", "//", "//h", "//h/", "s:", "s:a/b", "s:/a/b", "s://h", "s://h?q", "s://h#m", "s://h/a/b/?q", "s://h/a/../b?q#m", "s://h//a//b", "?", "#", "..", "a/..", "s:?#"}
	rows([]string{"s:", "//", "/", ".", "..", "a", "?", "#", ":", "1", "é"}, 4, "", func(reference string) {
		for _, base := range bases {
			checkReferenceResolve(t, base, reference)
		}
	})
	for _, base := range bases {
		rows([]string{"/", ".", "..", "a"}, 6, "", func(reference string) { checkReferenceResolve(t, base, reference) })
	}
	rows([]string{"s:", "/", ".", "..", "a", "?", "#", "h"}, 4, "", func(base string) {
		for _, reference := range []string{"", "x", ".", "..", "../x", "/", "/x", "//", "//i/x", "?", "#", "?x#y", "t:x/..", "../../x/."} {
			checkReferenceResolve(t, base, reference)
		}
	})
}

func FuzzResolve(f *testing.F) {
	f.Add("http://h/a/b?q#z", "../c?d#m")
	f.Add("s:a//..", "./x:y/../..//.")
	f.Add("//h", "\xff/..")
	f.Fuzz(checkReferenceResolve)
}

func TestReadingMixes(t *testing.T) {
	t.Parallel()
	parts := append(tagsOf(each(void, heads, blocks, forms, tabled, "li dd dt option textarea head x")...), tagsOf(each("p div li td th tr table br hr title script textarea")...)...)
	for range 8 {
		parts = append(parts, "x", " ", "\r\n", "&#13;", "&nbsp;", "a\tb", "<!-- c -->", "<a href=u/../v>", "<a href=' ?w '>", "<area href=//i/j>")
	}
	parts = append(parts, "<base href=/k/l>", "<base href=m/n>", "<base href>", "<base>", "<a href>", "&lt;&amp;&gt;", "<p a='\"&amp;'>", "<base href=/..//o>")
	chance := rand.New(rand.NewPCG(7, 8))
	for i := range 6000 {
		var page strings.Builder
		for range 1 + chance.IntN(50) {
			page.WriteString(parts[chance.IntN(len(parts))])
		}
		checkReferenceReading(t, page.String(), []string{"http://h/d/e?q", "s:x", "", "//h"}[i%4])
	}
}

func FuzzReading(f *testing.F) {
	f.Add(manySorts, "http://h/a/b")
	f.Add("<title> a\n b </title><p>c<br> d<table><td>e<td>f<script>g</script>", "")
	f.Add("<base href=x/y><a href=' ../z '>w<area href=#m>", "s://h")
	f.Fuzz(func(t *testing.T, bytes, address string) {
		// What goes into each node again for each is slow at long pages.
		if len(bytes) <= 2000 {
			checkReferenceReading(t, bytes, address)
		}
	})
}

// TestWriteRowsOfNodes has every short list of some nodes, trees or not.
func TestWriteRowsOfNodes(t *testing.T) {
	t.Parallel()
	var some []api.Node
	for parent := -1; parent <= 3; parent++ {
		some = append(some, element(parent, "html"), element(parent, "p", "a", `&"<`), element(parent, "br"), element(parent, "script"), words(parent, "<&"), remark(parent, "-&"))
	}
	some = append(some, api.Node{Kind: 0, Name: "p"}, api.Node{Kind: 4, Name: "p"})
	var all func(list []api.Node, more int)
	all = func(list []api.Node, more int) {
		checkReferenceWrite(t, list)
		for _, node := range some {
			if more > 0 {
				all(append(list[:len(list):len(list)], node), more-1)
			}
		}
	}
	all(nil, 2)
	all([]api.Node{root()}, 3)
}

// TestWriteMixes has longer lists, each mostly a tree, with a fault in some.
func TestWriteMixes(t *testing.T) {
	t.Parallel()
	names := each("p b br script style title html hr x")
	chance := rand.New(rand.NewPCG(9, 10))
	trees := 0
	for range 20000 {
		nodes := []api.Node{root()}
		for range chance.IntN(25) {
			node := api.Node{Kind: 1 + chance.IntN(3), Parent: len(nodes) - 1}
			for node.Parent > 0 && (chance.IntN(3) == 0 || nodes[node.Parent].Kind != api.Element || isOneOf(nodes[node.Parent].Name, void)) {
				node.Parent = nodes[node.Parent].Parent
			}
			if node.Kind == api.Element {
				node.Name = names[chance.IntN(len(names))]
			} else {
				node.Text = []string{"", "x", "<&>", "\xff\x00"}[chance.IntN(4)]
			}
			nodes = append(nodes, node)
		}
		if chance.IntN(2) == 0 {
			nodes[chance.IntN(len(nodes))].Parent = chance.IntN(len(nodes)+3) - 2
		}
		if isTree(nodes) {
			trees++
		}
		checkReferenceWrite(t, nodes)
	}
	if trees < 5000 || trees > 19500 {
		t.Errorf("%d of 20000 lists are trees: too few of one sort", trees)
	}
}
