package folio_test

import (
	"slices"
	"strings"
	"sync"
	"testing"
	"unsafe"

	"folio/api"
	"folio/folio"
)

// fullRow opens as many elements as the row has room for behind html and body.
var fullRow = strings.Repeat("<x>", api.MaxDepth-2)

// readCase is a page, and what is told of it.
type readCase struct{ page, want string }

func checkTitles(t *testing.T, cases []readCase) {
	t.Helper()
	for _, c := range cases {
		if got := fed(t, c.page).Title(); got != c.want {
			t.Errorf("P5: the title of %q is %q, want %q", c.page, got, c.want)
		}
	}
}

func checkTexts(t *testing.T, cases []readCase) {
	t.Helper()
	for _, c := range cases {
		if got := fed(t, c.page).Text(); got != c.want {
			t.Errorf("P5: the text of %q is %q, want %q", c.page, got, c.want)
		}
	}
}

func TestTitle(t *testing.T) {
	checkTitles(t, []readCase{
		{"<title>T</title>", "T"},
		{"<html><head><meta><title a=b>T &amp; &#233;</title></head><body>x", "T & é"},
		{"<title>a<b>&lt;/b></title>", "a<b></b>"},
		{"<title>a", "a"},
		{"<TITLE>A</Title >b", "A"},
		{"<title>\u00a0a\u2003\u000bb\u00a0</title>", "\u00a0a\u2003\u000bb\u00a0"},
	})
}

func TestTitleOfSeveral(t *testing.T) {
	checkTitles(t, []readCase{
		{"<title>a</title><title>b</title>", "a"},
		{"<title></title><title>b</title>", ""},
		{"<title> \n </title><title>b</title>", ""},
		{"<title>a</title><p><title>b</title>", "a"},
		{"<p><title>a</title><div><title>b</title>", "a"},
		{"<div><b><title>a</title>b</b></div>c", "a"},
		// This title is put, and not open: its words stand behind it.
		{fullRow + "<title>a</title><title>b</title>", ""},
	})
}

func TestTitleSpaces(t *testing.T) {
	checkTitles(t, []readCase{
		{"<title> a</title>", "a"},
		{"<title>a </title>", "a"},
		{"<title>\t\n\f\r &#13;a b&#9;\r\n </title>", "a b"},
		{"<title>a  b</title>", "a b"},
		{"<title>a\nb</title>", "a b"},
		{"<title>a\tb\fc&#13;d&#10;e</title>", "a b c d e"},
		{"<title>a \t\n\f&#13; b \n c</title>", "a b c"},
		{"<title>a<p>b<br>c</title>", "a<p>b<br>c"},
	})
}

func TestTitleWithoutOne(t *testing.T) {
	checkTitles(t, []readCase{
		{"", ""},
		{"x", ""},
		{"<p>title</p><!--<title>a</title>-->", ""},
		{"</title>a", ""},
		{"<script><title>a</title></script>", ""},
		{"<titles>a</titles>", ""},
		{"<title>", ""},
		{"<title></title>", ""},
		{"<title>&#32;</title>", ""},
		{"<title", ""},
	})
}

func TestText(t *testing.T) {
	checkTexts(t, []readCase{
		{"", ""},
		{"a", "a"},
		{"<ul><li>a<li><b>c</ul>d", "a\nc\nd"},
		{"<h1>A &amp; b</h1><p>one <b>two</b> <i>three</i>.</p><p>f<u>o</u>ur", "A & b\none two three.\nfour"},
		{"a<!-- b -->c", "ac"},
		{"a<!doctype b>c", "ac"},
		{"\u00a0a\u2003\u000b", "\u00a0a\u2003\u000b"},
		{"\x00\xff<p>&#0;", no + no + "\n" + no},
	})
}

func TestTextThatIsNotToBeRead(t *testing.T) {
	checkTexts(t, []readCase{
		{"<title>a</title>", ""},
		{"<title>a</title>b", "b"},
		{"<head><script>a</script><style>b</style><title>c</title></head>d", "d"},
		{"a<script>b</script>c", "ac"},
		{"a<style>b</style>c", "ac"},
		{"a<textarea>b</textarea>c", "ac"},
		{"a <script> b </script> c", "a c"},
		{"a<script>b", "a"},
		{"<p><textarea>a</textarea></p>b", "b"},
		{"a<script><br></script>b", "ab"},
		// Of a title in the body the document says nothing here.
		{"a<title>b</title>c", "abc"},
		{"a<option>b</option><select>c</select><noscript>d", "abcd"},
		// These are put, and not open: their words do not stand in them.
		{fullRow + "<script>a</script><textarea>b</textarea>", "ab"},
		{"a<br title=b alt=c><img alt=d>e", "a\ne"},
	})
}

func TestTextSpaces(t *testing.T) {
	checkTexts(t, []readCase{
		{" ", ""},
		{"<body> a", "a"},
		{"a ", "a"},
		{"<body> \t\n\f\r&#13; ", ""},
		{"a  b", "a b"},
		{"a\nb", "a b"},
		{"a\n\n\nb", "a b"},
		{"a\tb\fc&#13;d\re&#10;f g", "a b c d e f g"},
		{"a <b> b </b> c", "a b c"},
		{"a<b> </b>b", "a b"},
		{"a<b></b>b", "ab"},
		{"<pre>\n a\n  b\n</pre>", "a b"},
		{"a <!-- --> b", "a b"},
	})
}

func TestTextBreaks(t *testing.T) {
	lines := append(each(blocks), "li", "dd", "dt")
	for _, name := range lines {
		checkTexts(t, []readCase{
			{"a<" + name + ">b</" + name + ">c", "a\nb\nc"},
			{"a<" + name + "></" + name + ">c", "a\nc"},
			{"a <" + name + "> b\n</" + name + "> \t c", "a\nb\nc"},
			{"<" + name + ">b", "b"},
			{" <" + name + "> b </" + name + "> ", "b"},
			{"<span>a<" + name + ">b</" + name + "></span>c", "a\nb\nc"},
		})
	}
	for _, name := range each(void, forms, ordinary, "option body html head caption tbody thead tfoot") {
		if name != "br" && name != "hr" {
			checkTexts(t, []readCase{{"a<" + name + ">b</" + name + ">c", "abc"}})
		}
	}
	checkTexts(t, []readCase{
		{"<div><div><p>a</p></div></div><div> </div><p></p>b", "a\nb"},
		{"<ul><li><li> <li>a</ul>", "a"},
		{"<dl><dt>a<dd>b<dd>c</dl>d", "a\nb\nc\nd"},
		{"a<p>b<p>c</p>d", "a\nb\nc\nd"},
		// These are put, and not open, with a break ahead of each and behind.
		{fullRow + "a<div></div>b<p>c", "a\nb\nc"},
	})
}

func TestTextBreaksAtVoid(t *testing.T) {
	for _, name := range []string{"br", "hr"} {
		tag := "<" + name + ">"
		checkTexts(t, []readCase{
			{"a" + tag + "b", "a\nb"},
			{"a" + tag + tag + tag + "b", "a\nb"},
			{"a " + tag + " " + tag + "\n b", "a\nb"},
			{tag + "a" + tag, "a"},
			{tag, ""},
			{" " + tag + " ", ""},
			{"<p>a" + tag + "<p>b", "a\nb"},
			{"<b>a" + tag + "b</b>c", "a\nbc"},
		})
	}
	checkTexts(t, []readCase{{"a</br>b", "a\nb"}})
}

func TestTextOfTables(t *testing.T) {
	for _, name := range []string{"td", "th"} {
		cell := "<" + name + ">"
		checkTexts(t, []readCase{
			{"<table><tr>" + cell + "a" + cell + "b", "a b"},
			{"<table><tr>" + cell + "a" + cell + "b<tr>" + cell + "c", "a b\nc"},
			{"x<table>" + cell + "a</table>y", "x\na\ny"},
			{"<table>" + cell + "a" + cell + cell + cell + "b", "a b"},
			{"<table>" + cell + "a " + cell + " b", "a b"},
			{"<table>" + cell + "a" + cell + "<p>b</p>" + cell + "c", "a\nb\nc"},
			{"<table>" + cell + "<br>" + cell + "a", "a"},
			{"<table>" + cell + "a<br>" + cell + "b", "a\nb"},
			{"<table>" + cell + "a</" + name + ">b", "ab"},
			{"<table><tr>" + cell + "a</tr>b", "a\nb"},
			{"<table>" + cell + "a" + cell, "a"},
		})
	}
	checkTexts(t, []readCase{
		{"<table><caption>a</caption><thead><tr><th>b<th>c</thead><tbody><tr><td>d<td>e</table>f", "a\nb c\nd e\nf"},
		{"<table><caption>a</caption>b<tbody>c</tbody>d<tfoot>e", "abcde"},
		{"<table>a<tr></tr>b", "a\nb"},
	})
}

func checkLinks(t *testing.T, address, page string, want ...string) {
	t.Helper()
	if got := fed(t, page).Links(address); !slices.Equal(got, want) {
		t.Errorf("P5: the links of %q at %q are %q, want %q", page, address, got, want)
	}
}

func TestLinks(t *testing.T) {
	const at = "http://h/d/e?q#m"
	checkLinks(t, at, "")
	checkLinks(t, at, "<p href=x>y<link href=x><form action=x><img src=x><b href=x>")
	checkLinks(t, at, "<a href=x>", "http://h/d/x")
	checkLinks(t, at, "<map><area href=x></map>", "http://h/d/x")
	checkLinks(t, at, "<A HREF=X>", "http://h/d/X")
	checkLinks(t, at, "<a>x</a><area><a name=x><a hrefs=x><a xhref=x>")
	checkLinks(t, at, "<a href=1><p><area href=2><a>0</a></p><a href=3>x<div><a href=4>", "http://h/d/1", "http://h/d/2", "http://h/d/3", "http://h/d/4")
	checkLinks(t, at, "<a href=x href=y>", "http://h/d/x")
	checkLinks(t, at, "<a href>", "http://h/d/e?q")
	checkLinks(t, at, "<a href=''><a href='#n'><a href='?'>", "http://h/d/e?q", "http://h/d/e?q#n", "http://h/d/e?")
	checkLinks(t, at, "<a href='?a=1&amp;b=2&copy=3'>", "http://h/d/e?a=1&b=2&copy=3")
	checkLinks(t, at, "<a href='mailto:x'><a href=//i/../j><a href=/k/./l>", "mailto:x", "http://i/j", "http://h/k/l")
	// The form is opened again: it is an element of its own.
	checkLinks(t, at, "<p><a href=x>1<p>2", "http://h/d/x", "http://h/d/x")
	checkLinks(t, "", "<a href=x/../y><a href>", "y", "")
	checkLinks(t, " s:a b/c ", "<a href=x>", " s:a b/x")
}

func TestLinksSpaceAtTheEnds(t *testing.T) {
	const at = "http://h/d/e"
	checkLinks(t, at, "<a href=' x '>", "http://h/d/x")
	checkLinks(t, at, "<a href='\t\n\f\r x\r\n&#13;&#9; '>", "http://h/d/x")
	checkLinks(t, at, "<a href='x y'>", "http://h/d/x y")
	checkLinks(t, at, "<a href=' '>", "http://h/d/e")
	checkLinks(t, at, "<a href='\u00a0x\u000b'>", "http://h/d/\u00a0x\u000b")
	checkLinks(t, at, "<area href=' //i/x '>", "http://i/x")
	checkLinks(t, at, "<a href=' s:x #m '>", "s:x #m")
}

func TestLinksBase(t *testing.T) {
	const at = "http://h/d/e?q"
	checkLinks(t, at, "<base href=http://i/f/g><a href=x>", "http://i/f/x")
	checkLinks(t, at, "<base href=/f/g><a href=x>", "http://h/f/x")
	checkLinks(t, at, "<base href=f/g><a href=x>", "http://h/d/f/x")
	checkLinks(t, at, "<base href=//i><a href=x><a href>", "http://i/x", "http://i")
	checkLinks(t, at, "<base href='?r'><a href>", "http://h/d/e?r")
	checkLinks(t, at, "<base href='#m'><a href>", "http://h/d/e?q")
	checkLinks(t, at, "<base href=' \n/f/ '><a href=x>", "http://h/f/x")
	checkLinks(t, at, "<base><base target=x><base href=/f/><base href=/g/><a href=x>", "http://h/f/x")
	checkLinks(t, at, "<base href><base href=/g/><a href=x>", "http://h/d/x")
	checkLinks(t, at, "<a href=x><p><base href=/f/><a href=y>", "http://h/f/x", "http://h/f/y")
	checkLinks(t, at, "<basefont href=/f/><a href=x>", "http://h/d/x")
	checkLinks(t, at, "<base href=/f/><base href=g/><a href=../x>", "http://h/x")
	// What the base is resolved to is an address that is split like any other.
	checkLinks(t, "s:x", "<base href=/..//b><a href=y>", "s://b/y")
	checkLinks(t, "", "<base href=../f/g><a href=x>", "f/x")
}

func TestReadingGivesNewMemory(t *testing.T) {
	page := fed(t, "<title>abc</title><base href=/f/g><a href=x>w<a href=y>w<a href=http://h/abc>v")
	const at = "http://h/abc"
	want := []string{"http://h/f/x", "http://h/f/y", at}
	for range 3 {
		links := page.Links(at)
		if !slices.Equal(links, want) || page.Title() != "abc" || page.Text() != "wwv" {
			t.Fatalf("P1: %q, %q, %q", links, page.Title(), page.Text())
		}
		links = links[:cap(links)]
		for i := range links {
			links[i] = "spoilt"
		}
		spoil(page.Nodes())
	}
	address := strings.Clone("http://h/abc?q")
	for _, link := range fed(t, "<a href><a href=''>").Links(address) {
		if link != address || sharesMemory(link, address) {
			t.Errorf("P1: %q stands in the address that was handed in", link)
		}
	}
}

// sharesMemory is true if the texts' bytes lie over each other.
func sharesMemory(one, other string) bool {
	from, to := uintptr(unsafe.Pointer(unsafe.StringData(one))), uintptr(unsafe.Pointer(unsafe.StringData(other)))
	return from < to+uintptr(len(other)) && to < from+uintptr(len(one))
}

func TestLinksKeepNothingOfTheAddress(t *testing.T) {
	page := fed(t, "<a href><a href=x><base href='?r'>")
	bytes := []byte("http://h/d/e")
	links := page.Links(unsafe.String(&bytes[0], len(bytes)))
	for i := range bytes {
		bytes[i] = '!'
	}
	if want := []string{"http://h/d/e?r", "http://h/d/x"}; !slices.Equal(links, want) {
		t.Errorf("P1: the links hang on the address: %q, want %q", links, want)
	}
	if got := page.Links("s:"); !slices.Equal(got, []string{"s:?r", "s:x"}) {
		t.Errorf("P1: behind another address: %q", got)
	}
}

func TestReadingAtTheSameTime(t *testing.T) {
	page := fed(t, manySorts)
	title, text, links := page.Title(), page.Text(), page.Links("http://h/")
	var all sync.WaitGroup
	for range 16 {
		all.Go(func() {
			for range 20 {
				if page.Title() != title || page.Text() != text || !slices.Equal(page.Links("http://h/"), links) {
					t.Errorf("P1: beside others a page tells something else")
				}
				folio.Write(page.Nodes())
			}
		})
	}
	all.Wait()
}
