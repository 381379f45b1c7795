package folio_test

import (
	"strings"
	"testing"

	"folio/api"
)

func TestTreeParagraphs(t *testing.T) {
	checkBodies(t, []treeCase{
		{"<p>a<p>b", "p('a') p('b')"},
		{"<p>a<i>b<p>c", "p('a' i('b')) p(i('c'))"},
		{"<p>a<x>b<p>c", "p('a' x('b')) p('c')"},
		{"<p>a</p>b", "p('a') 'b'"},
		{"<p>a<x>b</p>c", "p('a' x('b')) 'c'"},
		{"a</p>b", "'a' p 'b'"},
		{"</p>a", "p 'a'"},
		{"<div>a</p>b</div>c", "div('a' p 'b') 'c'"},
		{"<p a=1></p b=2></p c=3>", "p a=\"1\" p"},
		{"<div><b>a</div></p>c", "div(b('a')) p b('c')"},
		{"<p>a<table><td>b</p>c", "p('a') table(tbody(tr(td('b' p 'c'))))"},
		{"<table><p>a<td><p>b<div>c", "table(p('a') tbody(tr(td(p('b') div('c')))))"},
		{"<table><caption><p>a<p>b</caption></p>", "table(caption(p('a') p('b')) p)"},
	})
	checkTrees(t, []treeCase{{"<meta></p>a", "head(meta) body(p 'a')"}})
	for _, name := range each(blocks, "li dd dt") {
		checkBodies(t, []treeCase{
			{"<p>a<i>b<" + name + " c=1>", "p('a' i('b')) " + name + " c=\"1\""},
			{"<p>a<x><" + name + "/>", "p('a' x) " + name},
		})
	}
	for _, name := range each(forms, ordinary, "option") {
		checkBodies(t, []treeCase{{"<p>a<" + name + ">b", "p('a' " + name + "('b'))"}})
	}
}

func TestTreeLists(t *testing.T) {
	checkBodies(t, []treeCase{
		{"<ul><li>a<li>b</ul>c", "ul(li('a') li('b')) 'c'"},
		{"<li>a<div>b<li>c", "li('a' div('b')) li('c')"},
		{"<li>a<p>b<li>c", "li('a' p('b')) li('c')"},
		{"<li><i>a<li>b", "li(i('a')) li(i('b'))"},
		{"<ul><li>a<ul><li>b<li>c</ul><li>d", "ul(li('a' ul(li('b') li('c'))) li('d'))"},
		{"<li>a<ol><li>b", "li('a' ol(li('b')))"},
		{"<li>a<ol><x><li>b", "li('a' ol(x(li('b'))))"},
		{"<li>a<dl><li>b", "li('a' dl) li('b')"},
		{"<li>a<menu><li>b", "li('a' menu) li('b')"},
		{"<li>a<ul></li>b", "li('a' ul) 'b'"},
		{"<li>a<ol><p></li>b", "li('a' ol(p)) 'b'"},
		{"<li>a</li>b</li>c", "li('a') 'bc'"},
		{"<li><table><td><li>a<li>b", "li(table(tbody(tr(td(li('a') li('b'))))))"},
		{"<li><table><td></li>a", "li(table(tbody(tr(td('a')))))"},
		{"<li><table><li>a", "li(table(li('a')))"},
		{"<ul><p>a<li>b", "ul(p('a') li('b'))"},
		{"<p><ul><li>a", "p ul(li('a'))"},
		{"<x><p><span>a<li>b", "x(p(span('a')) li('b'))"},
		{"<li><dd>a<li>b", "li(dd('a')) li('b')"},
	})
}

func TestTreeTermsAndWhatTheyMean(t *testing.T) {
	checkBodies(t, []treeCase{
		{"<dl><dt>a<dd>b<dt>c<dt>d<dd>e<dd>f</dl>g", "dl(dt('a') dd('b') dt('c') dt('d') dd('e') dd('f')) 'g'"},
		{"<dd>a<div>b<dt>c", "dd('a' div('b')) dt('c')"},
		{"<dd>a<dl><dt>b", "dd('a' dl(dt('b')))"},
		{"<dd>a<ul><dt>b", "dd('a' ul) dt('b')"},
		{"<dd>a<ol><li><dt>b", "dd('a' ol(li)) dt('b')"},
		{"<dt>a<dl></dt>b", "dt('a' dl) 'b'"},
		{"<dd>a</dt>b</dd>c", "dd('ab') 'c'"},
		{"<dt><p>a<dd>b", "dt(p('a')) dd('b')"},
		{"<dt><b>a<dd>b", "dt(b('a')) dd(b('b'))"},
		{"<dt><table><td><dd>a<dt>b", "dt(table(tbody(tr(td(dd('a') dt('b'))))))"},
		{"<li>a<dd>b<dt>c<li>d", "li('a' dd('b') dt('c')) li('d')"},
	})
}

func TestTreeHeadings(t *testing.T) {
	for _, one := range each(headings) {
		for _, other := range each(headings) {
			checkBodies(t, []treeCase{
				{"<" + one + ">a<" + other + ">b", one + "('a') " + other + "('b')"},
				{"<" + one + ">a</" + other + ">b", one + "('a') 'b'"},
				{"<" + one + "><x>a<" + other + ">b</" + one + ">c", one + "(x('a' " + other + "('b') 'c'))"},
			})
		}
	}
	checkBodies(t, []treeCase{
		{"<h1><p>a<h2>b", "h1(p('a')) h2('b')"},
		{"<h1><b>a</h2>b", "h1(b('a')) b('b')"},
		{"<h1>a<table><td>b</h1>c", "h1('a' table(tbody(tr(td('bc')))))"},
		{"<h1>a<table><td><h2>b</h1>c", "h1('a' table(tbody(tr(td(h2('b') 'c')))))"},
		{"a</h1>b", "'ab'"},
		{"<h7>a<h7>b</h1>c", "h7('a' h7('bc'))"},
		{"<h1>a<p>b</h1>c", "h1('a' p('b')) 'c'"},
	})
}

func TestTreeOptions(t *testing.T) {
	checkBodies(t, []treeCase{
		{"<select><option>a<option>b</select>c", "select(option('a') option('b')) 'c'"},
		{"<option a=1><option/><option>", "option a=\"1\" option option"},
		{"<option>a<x>b<option>c", "option('a' x('b' option('c')))"},
		{"<option>a</option>b", "option('a') 'b'"},
		{"<div><b>a</div><option>b", "div(b('a')) option(b('b'))"},
		{"<div><b>a</div><option></option>b", "div(b('a')) option b('b')"},
		{"<optgroup><option>a<optgroup>b", "optgroup(option('a' optgroup('b')))"},
	})
}

func TestTreeTables(t *testing.T) {
	checkBodies(t, []treeCase{
		{"<table a=1><caption b=2>a<thead c=3><tr d=4><th e=5>b<tbody><tr><td>c<td>d<tr><td>e<tfoot><td>f</table>g",
			"table a=\"1\"(caption b=\"2\"('a') thead c=\"3\"(tr d=\"4\"(th e=\"5\"('b'))) tbody(tr(td('c') td('d')) tr(td('e'))) tfoot(tr(td('f')))) 'g'"},
		{"<table><td>a", "table(tbody(tr(td('a'))))"},
		{"<table><th>a<td>b", "table(tbody(tr(th('a') td('b'))))"},
		{"<table><tr>a", "table(tbody(tr('a')))"},
		{"<table><tr><tr>", "table(tbody(tr tr))"},
		{"<table><thead><td>a<th>b<tr><td>c", "table(thead(tr(td('a') th('b')) tr(td('c'))))"},
		{"<table><tfoot><tr>a<tbody>b<thead>c", "table(tfoot(tr('a')) tbody('b') thead('c'))"},
		{"<table><tbody>a<tbody>b", "table(tbody('a') tbody('b'))"},
		{"<table><td>a<caption>b<td>c", "table(tbody(tr(td('a'))) caption('b') tbody(tr(td('c'))))"},
		{"<table><caption>a<caption>b", "table(caption('a') caption('b'))"},
		{"<table>a<x>b<td>c", "table('a' x('b') tbody(tr(td('c'))))"},
		{"<table><tbody><x>a<tr>b", "table(tbody(x('a') tr('b')))"},
		{"<table><tbody><x>a<td>b", "table(tbody(x('a') tr(td('b'))))"},
		{"<table><tr><x>a<td>b", "table(tbody(tr(x('a') td('b'))))"},
		{"<table><x><td>a", "table(x tbody(tr(td('a'))))"},
		{"<table><x><tbody><td>a", "table(x tbody(tr(td('a'))))"},
		{"<table><tr><td><table>a<td>b</table>c<td>d", "table(tbody(tr(td(table('a' tbody(tr(td('b')))) 'c') td('d'))))"},
		{"<table><table>a", "table(table('a'))"},
		{"<table><td><table></table></table>a", "table(tbody(tr(td(table)))) 'a'"},
		{"<div><table><td>a</div>b", "div(table(tbody(tr(td('ab')))))"},
		{"<table> <tr> <td> a </td> </tr> </table> ", "table(' ' tbody(tr(' ' td(' a ') ' ') ' ')) ' '"},
		{"<table><col><colgroup><col><td>a", "table(col colgroup(col) tbody(tr(td('a'))))"},
		{"<table><br><td>a", "table(br tbody(tr(td('a'))))"},
		{"<table><tr><!--a--><td>b", "table(tbody(tr(!'a' td('b'))))"},
	})
}

func TestTreePartsWithoutATable(t *testing.T) {
	for _, name := range each(tabled) {
		if name == "table" {
			continue
		}
		checkBodies(t, []treeCase{
			{"<" + name + ">", ""},
			{"<" + name + "> a", "' a'"},
			{"<p>a<" + name + " b=1>c", "p('ac')"},
			{"<table></table>a<" + name + ">b", "table 'ab'"},
			{"a</" + name + ">b", "'ab'"},
			{"<div><b>a</div><" + name + ">b", "div(b('a')) b('b')"},
			{"<div><b>a</div></" + name + ">b", "div(b('a')) b('b')"},
		})
	}
	checkTrees(t, []treeCase{{"<meta><td> a", "head(meta) body(' a')"}, {"<td><meta>", "head body(meta)"}})
}

func TestTreeEndsOfTables(t *testing.T) {
	checkBodies(t, []treeCase{
		{"<table><td>a</td>b</tr>c</tbody>d</table>e", "table(tbody(tr(td('a') 'b') 'c') 'd') 'e'"},
		{"<table><th>a</th>b<thead><tr></thead>c<tfoot></tfoot>d<caption></caption>e", "table(tbody(tr(th('a') 'b')) thead(tr) 'c' tfoot 'd' caption 'e')"},
		{"<table><td>a</tr>b", "table(tbody(tr(td('a')) 'b'))"},
		{"<table><td>a</th>b</thead>c</caption>d", "table(tbody(tr(td('abcd'))))"},
		{"<table><td>a<table>b</td>c</tr>d</tbody>e", "table(tbody(tr(td('a' table('bcde')))))"},
		{"<table><td>a<table>b</table>c</td>d", "table(tbody(tr(td('a' table('b') 'c') 'd')))"},
		{"<table><td><x>a</td>b", "table(tbody(tr(td(x('a')) 'b')))"},
		{"<table><td><x>a</table>b", "table(tbody(tr(td(x('a'))))) 'b'"},
		{"<table></table></table>a", "table 'a'"},
		{"<table><td>a</body></html></head>b", "table(tbody(tr(td('ab'))))"},
	})
}

func TestTreeWalls(t *testing.T) {
	for _, name := range each(forms, ordinary, "div ul li dd option pre") {
		for _, wall := range []string{"td", "th"} {
			checkBodies(t, []treeCase{{"<" + name + "><table><" + wall + ">a</" + name + ">b", name + "(table(tbody(tr(" + wall + "('ab')))))"}})
		}
		checkBodies(t, []treeCase{
			{"<" + name + "><table><caption>a</" + name + ">b", name + "(table(caption('ab')))"},
			{"<" + name + "><table>a</" + name + ">b", name + "(table('ab'))"},
			{"<" + name + "><table><tr>a</" + name + ">b", name + "(table(tbody(tr('ab'))))"},
			{"<" + name + "><table></table>a</" + name + ">b", name + "(table 'a') 'b'"},
		})
	}
	for _, name := range each("tbody thead tfoot tr") {
		page := "<table><" + name + "><x>a</x>b"
		want := "table(" + name + "(x('a') 'b'))"
		if name == "tr" {
			want = "table(tbody(tr(x('a') 'b')))"
		}
		checkBodies(t, []treeCase{{page, want}})
	}
	// Between the table and its parts that are no walls an open element is near.
	checkBodies(t, []treeCase{{"<table><tr><x><tr><y></x>a</y>b", "table(tbody(tr(x) tr(y('a') 'b')))"}})
}

func TestTreeAnchors(t *testing.T) {
	checkBodies(t, []treeCase{
		{"<a b=1>c<a d=2>e", "a b=\"1\"('c') a d=\"2\"('e')"},
		{"<a><i>b<a>c", "a(i('b')) i(a('c'))"},
		{"<a><div>b<a>c", "a(div('b')) a('c')"},
		{"<a><p>b<a>c", "a(p('b')) a('c')"},
		{"<a><table><td><a>b", "a(table(tbody(tr(td(a('b'))))))"},
		{"<a><table><td>b</a>c", "a(table(tbody(tr(td('bc')))))"},
		{"<div><a b=1>c</div><a d=2>e", "div(a b=\"1\"('c')) a b=\"1\"(a d=\"2\"('e'))"},
		{"<a>b</a>c", "a('b') 'c'"},
		{"<b><a>c<b>d<a>e", "b(a('c' b('d')) b(a('e')))"},
	})
}

func TestTreeFormsThatAreOpenedAgain(t *testing.T) {
	for _, name := range each(forms) {
		for _, around := range each("div ul pre h2 section x span label") {
			checkBodies(t, []treeCase{{"<" + around + "><" + name + " b=1 c=2>x</" + around + ">y", around + "(" + name + " b=\"1\" c=\"2\"('x')) " + name + " b=\"1\" c=\"2\"('y')"}})
		}
	}
	for _, name := range each(ordinary, "li dd dt option div") {
		checkBodies(t, []treeCase{{"<form><" + name + ">x</form>y", "form(" + name + "('x')) 'y'"}})
	}
	checkBodies(t, []treeCase{
		{"<b><i>x</b>y</i>z", "b(i('x')) i('y') 'z'"},
		{"<b><i><u><s>w</i>x", "b(i(u(s('w'))) u(s('x')))"},
		{"<div><b><x><i>w</div>y", "div(b(x(i('w')))) b(i('y'))"},
		{"<b>x<div>y</b>z", "b('x' div('y')) 'z'"},
		{"<p><b>x<p><i>y<p>z", "p(b('x')) p(b(i('y'))) p(b(i('z')))"},
		{"<div><b></div><p><i>x", "div(b) p(b(i('x')))"},
		{"<div><b></div><div><p>x", "div(b) div(p(b('x')))"},
		{"<b><b><b>x<p>y</b>z", "b(b(b('x' p('y')) 'z'))"},
		{"<div><p><b></div><div><i></div>x", "div(p(b)) div(b(i)) b(i('x'))"},
		{"<div><b></div><div></div><div></div>x", "div(b) div div b('x')"},
		{"<b><div><i>x</b>y", "b(div(i('x'))) i('y')"},
	})
}

func TestTreeWhatOpensFormsAgain(t *testing.T) {
	const front, before = "<div><b>1</div>", "div(b('1')) "
	for _, name := range each(forms, ordinary, "textarea") {
		checkBodies(t, []treeCase{{front + "<" + name + ">", before + "b(" + name + ")"}})
	}
	for _, name := range each(void) {
		checkBodies(t, []treeCase{{front + "<" + name + ">", before + "b(" + name + ")"}})
	}
	for _, name := range each(blocks, "li dd dt option script style title") {
		checkBodies(t, []treeCase{{front + "<" + name + ">", before + name}})
	}
	checkBodies(t, []treeCase{
		{front + "x", before + "b('x')"},
		{front + " x", before + "b(' x')"},
		{front + " \n", before + "' \n'"},
		{front + " <i>", before + "' ' b(i)"},
		{front + "&nbsp;", before + "b('\u00a0')"},
		{front + "<!--x-->", before + "!'x'"},
		{front + "<!doctype x>", "div(b('1'))"},
		{front + "</br>", before + "b(br)"},
		{front + "</p>", before + "p"},
		{front + "</x></div>", "div(b('1'))"},
		{front + "<html a=1>", "div(b('1'))"},
		{front + "<head>", "div(b('1'))"},
		{front + "<script>x</script><style>y</style><title>z</title>", before + "script('x') style('y') title('z')"},
		{front + "<textarea>x</textarea>", before + "b(textarea('x'))"},
		{front + "<table><tr><td>", before + "table(tbody(tr(td)))"},
		{front + "<table><tr><td>x", before + "table(tbody(tr(td(b('x')))))"},
		{front + "<table>x", before + "table(b('x'))"},
	})
	checkTrees(t, []treeCase{{front + "<body a=1>", "head body a=\"1\"(div(b('1')))"}})
}

func TestTreeFormsThatAreNoMore(t *testing.T) {
	checkBodies(t, []treeCase{
		{"<b><i></b></i>x", "b(i) 'x'"},
		{"<div><b><i></div></b>x", "div(b(i)) i('x')"},
		{"<div><b><i></div></i>x", "div(b(i)) b('x')"},
		{"<div><b a=1><b a=2></div></b>x", "div(b a=\"1\"(b a=\"2\")) b a=\"1\"('x')"},
		{"<div><b a=1><i><b a=2></div></b></b>x", "div(b a=\"1\"(i(b a=\"2\"))) i('x')"},
		{"<div><b></div></b></b>x", "div(b) 'x'"},
		{"<div><b></div></i>x", "div(b) b('x')"},
		{"<div><b></div></B>x", "div(b) 'x'"},
		// One that is near is closed, and that which is to be opened again stays.
		{"<b><div><b a=1></div></b>x", "b(div(b a=\"1\")) b a=\"1\"('x')"},
		{"<b><div><b a=1></div></b></b>x", "b(div(b a=\"1\")) 'x'"},
		// One that is open ahead of a wall is not near.
		{"<b><table><td><div><b a=1></div></b>x", "b(table(tbody(tr(td(div(b a=\"1\") 'x')))))"},
		{"<div><a></div></a><a>x", "div(a) a('x')"},
		{"<div><x></div></x>y", "div(x) 'y'"},
	})
}

func TestTreeTabledEndsLeaveNoForms(t *testing.T) {
	checkBodies(t, []treeCase{
		{"<table><td><b>x</td>y", "table(tbody(tr(td(b('x')) 'y')))"},
		{"<table><td><b>x</table>y", "table(tbody(tr(td(b('x'))))) 'y'"},
		{"<table><td><b>x<td>y", "table(tbody(tr(td(b('x')) td('y'))))"},
		{"<table><td><b>x<tr><td>y", "table(tbody(tr(td(b('x'))) tr(td('y'))))"},
		{"<table><caption><b>x<td>y", "table(caption(b('x')) tbody(tr(td('y'))))"},
		{"<table><td><div><b>x</div></td>y", "table(tbody(tr(td(div(b('x'))) 'y')))"},
		{"<table><td><div><b>x</div><td>y", "table(tbody(tr(td(div(b('x'))) td('y'))))"},
		{"<table><b>x</table>y", "table(b('x')) 'y'"},
		// What is closed is a form itself, or has forms in it, but nothing tabled.
		{"<table><b><i>x<tr><td>y", "table(b(i('x')) tbody(tr(td(i('y')))))"},
		{"<table><x><b>x<tr><td>y", "table(x(b('x')) tbody(tr(td(b('y')))))"},
		{"<table><tr><x><b>x<td>y", "table(tbody(tr(x(b('x')) td(b('y')))))"},
		{"<table><tbody><x><b>x<tr>y", "table(tbody(x(b('x')) tr(b('y'))))"},
		{"<table><tr><x><b>x<tr>y", "table(tbody(tr(x(b('x'))) tr('y')))"},
		{"<div><b></div><table></table>y", "div(b) table 'y'"},
		{"<div><b></div><table><tr><td>", "div(b) table(tbody(tr(td)))"},
		{"<div><b></div><table><td></td>y", "div(b) table(tbody(tr(td 'y')))"},
		{"<div><b></div><table></x>y", "div(b) table(b('y'))"},
		{"<b><table><td><div><i></div></table>y", "b(table(tbody(tr(td(div(i))))) 'y')"},
	})
}

func TestTreeOtherEnds(t *testing.T) {
	for _, name := range each(blocks, ordinary, "li dd dt option textarea") {
		if isOneOf(name, headings+" p table") {
			continue
		}
		checkBodies(t, []treeCase{
			{"x</" + name + ">y", "'xy'"},
			{"<" + name + " a=1></" + name + ">y", name + " a=\"1\" 'y'"},
		})
		if name != "textarea" {
			checkBodies(t, []treeCase{{"<" + name + "><z>x</" + name + ">y</z>w", name + "(z('x')) 'yw'"}})
		}
	}
	checkBodies(t, []treeCase{
		{"<x>a</body>b</html>c</head>d", "x('abcd')"},
		{"<div><section>a</div>b</section>c", "div(section('a')) 'bc'"},
		{"<x><x>a</x>b</x>c</x>d", "x(x('a') 'b') 'cd'"},
	})
	checkTrees(t, []treeCase{
		{"<script></script></script>x</style></title></textarea>y", "head(script) body('xy')"},
		{"</script></style></title></textarea></b></div></td></h1><meta>", "head(meta) body"},
		{"<head></b></x><meta></head><meta>", "head(meta) body(meta)"},
		{"</body><meta>", "head body(meta)"},
		{"</html> <meta>", "head body(' ' meta)"},
		{"<head></body> x", "head body(' x')"},
		{"</head> x", "head body(' x')"},
		{"<head></br>x", "head body(br 'x')"},
		{"<head></p>x", "head body(p 'x')"},
		{"</BR>", "head body(br)"},
	})
}

// nested gives so many x, each in the one ahead of it.
func nested(count int, inner string) string {
	if inner != "" {
		inner = "(" + inner + ")"
	}
	return strings.Repeat("x(", count-1) + "x" + inner + strings.Repeat(")", count-1)
}

func TestTreeMaxDepth(t *testing.T) {
	// With html and body these are all that the row holds.
	const room = api.MaxDepth - 2
	open := func(count int) string { return strings.Repeat("<x>", count) }
	checkBodies(t, []treeCase{
		{open(room) + "a", nested(room, "'a'")},
		{open(room-1) + "<y>a</y>b", nested(room-1, "y('a') 'b'")},
		{open(room) + "<y b=1>a</y>b", nested(room, "y b=\"1\" 'ab'")},
		{open(room) + "<y><z>a<br>b</x>c", nested(room-1, "x(y z 'a' br 'b') 'c'")},
		{open(room+3) + "a</x>b", nested(room-1, "x(x x x 'a') 'b'")},
		{open(room) + "<script>a</script>b", nested(room, "script 'ab'")},
		{open(room) + "<textarea> a</textarea>b<title>c</title>", nested(room, "textarea ' ab' title 'c'")},
		{open(room) + "<p>a<p>b</p>c", nested(room, "p 'a' p 'b' p 'c'")},
		{open(room) + "<table><tr><td>a", nested(room, "table 'a'")},
		{open(room-1) + "<table><tr>a<td>b<tbody>c", nested(room-1, "table(tbody tr 'a' tbody tr td 'b' tbody 'c')")},
		{open(room-2) + "<table><tr>a<td>b<tr>c", nested(room-2, "table(tbody(tr 'a' tr td 'b' tr 'c'))")},
		{open(room-3) + "<table><td>a<td>b<tr>c", nested(room-3, "table(tbody(tr(td 'a' td 'b') tr('c')))")},
		{open(room) + "<!--a-->", nested(room, "!'a'")},
	})
}

func TestTreeMaxDepthOfForms(t *testing.T) {
	const room = api.MaxDepth - 2
	open := func(count int) string { return strings.Repeat("<x>", count) }
	checkBodies(t, []treeCase{
		// Of the forms only those are opened again, and put, for which there is room.
		{open(room-3) + "<y><b><i></y><p><q>a", nested(room-3, "y(b(i)) p(b(i(q 'a')))")},
		{open(room-3) + "<y><b><i></y><p><p>a", nested(room-3, "y(b(i)) p p(b(i('a')))")},
		{open(room-3) + "<y><b><i></y><ul><li>a", nested(room-3, "y(b(i)) ul(li(b('a')))")},
		// Those for which there is none are no more.
		{open(room-2) + "<y><b></y><ul><li>a", nested(room-2, "y(b) ul(li('a'))")},
		{open(room-2) + "<y><b></y><ul><li>a</ul>b", nested(room-2, "y(b) ul(li('a')) 'b'")},
		{open(room-2) + "<y><b></y><ul><li><br>a", nested(room-2, "y(b) ul(li(br 'a'))")},
		{open(room) + "<b>a</b>b", nested(room, "b 'ab'")},
	})
}
