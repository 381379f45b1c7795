package folio_test

import (
	"reflect"
	"runtime"
	"strings"
	"sync"
	"testing"
	"time"
	"unsafe"

	"folio/api"
	"folio/folio"
)

// manySorts has something of every rule of a tree, and letters of one to four bytes.
const manySorts = "\xef\xbb\xbf<!doctype html>\r\n<!--é--><html a=1><head b=2><title>T &amp; \xe2\x82\xac</title><meta c=3></head>\r<body d=4>" +
	"<p>x<b e=5 f=6>y<p>z</b><ul><li>1<li><i>2</ul>3<table><td g=7>\U0001F600<tr><th>\xff</table><a h=8>l<a>m<br/>&#233;<x><html a=9 i=9>\x00</x>\xf0\x9f"

// fed gives the page of the pieces.
func fed(t testing.TB, pieces ...string) *folio.Page {
	t.Helper()
	parser := folio.New()
	if parser == nil {
		t.Fatal("P4: New() = nil")
	}
	for i, piece := range pieces {
		if errno := parser.Feed(piece); errno != api.OK {
			t.Fatalf("P4: Feed of piece %d = %d", i, errno)
		}
	}
	return ended(t, parser)
}

func ended(t testing.TB, parser *folio.Parser) *folio.Page {
	t.Helper()
	page, errno := parser.End()
	if page == nil || errno != api.OK {
		t.Fatalf("P4: End() = %v, %d", page, errno)
	}
	return page
}

// cut gives pieces of so many bytes.
func cut(bytes string, size int) []string {
	var pieces []string
	for len(bytes) > size {
		pieces = append(pieces, bytes[:size])
		bytes = bytes[size:]
	}
	return append(pieces, bytes)
}

func checkNodes(t *testing.T, page *folio.Page, want []api.Node) {
	t.Helper()
	if got := page.Nodes(); !reflect.DeepEqual(got, want) {
		t.Errorf("P4: Nodes() = %+v, want %+v", got, want)
	}
}

func element(parent int, name string, attrs ...string) api.Node {
	return api.Node{Kind: api.Element, Parent: parent, Name: name, Attrs: start("", attrs...).Attrs}
}

func words(parent int, text string) api.Node {
	return api.Node{Kind: api.Words, Parent: parent, Text: text}
}

func remark(parent int, text string) api.Node {
	return api.Node{Kind: api.Remark, Parent: parent, Text: text}
}

func TestNodesOrdinary(t *testing.T) {
	checkNodes(t, fed(t), []api.Node{element(-1, "html"), element(0, "head"), element(0, "body")})
	checkNodes(t, fed(t, "<ul><li>a<li><b>c</ul>d"), []api.Node{
		element(-1, "html"), element(0, "head"), element(0, "body"),
		element(2, "ul"), element(3, "li"), words(4, "a"), element(3, "li"), element(6, "b"), words(7, "c"),
		element(2, "b"), words(9, "d"),
	})
	checkNodes(t, fed(t, "<!--r--><title a=1>T</title><P B='2' c>x<Br/>y</p>"), []api.Node{
		element(-1, "html"), remark(0, "r"), element(0, "head"), element(2, "title", "a", "1"), words(3, "T"),
		element(0, "body"), element(5, "p", "b", "2", "c", ""), words(6, "x"), element(6, "br"), words(6, "y"),
	})
}

func TestNodesAreOfTheLettersOfTheBytes(t *testing.T) {
	checkNodes(t, fed(t, "\xef\xbb\xbf\xef\xbb\xbfa\r\n\r\x00\xe2\x82\xac\xe2\x82<b\x00>\xff"), []api.Node{
		element(-1, "html"), element(0, "head"), element(0, "body"),
		words(2, "\uFEFFa\n\n"+no+"€"+no), element(2, "b"+no), words(4, no),
	})
}

func TestNodesInAnyPieces(t *testing.T) {
	want := fed(t, manySorts).Nodes()
	for size := 1; size < len(manySorts); size++ {
		if got := fed(t, cut(manySorts, size)...).Nodes(); !reflect.DeepEqual(got, want) {
			t.Errorf("P7: in pieces of %d: %+v, want %+v", size, got, want)
		}
		if got := fed(t, "", manySorts[:size], "", "", manySorts[size:], "").Nodes(); !reflect.DeepEqual(got, want) {
			t.Errorf("P7: cut at %d: %+v, want %+v", size, got, want)
		}
	}
}

func TestFeedBehindAnEnd(t *testing.T) {
	for _, pieces := range [][]string{nil, {""}, {"<p>x"}, {strings.Repeat("x", api.MaxBytes)}} {
		parser := folio.New()
		for _, piece := range pieces {
			parser.Feed(piece)
		}
		page := ended(t, parser)
		want := page.Nodes()
		for _, more := range []string{"", "y", strings.Repeat("y", api.MaxBytes), strings.Repeat("y", api.MaxBytes+1), ""} {
			if errno := parser.Feed(more); errno != api.ErrEnded {
				t.Errorf("P4: behind an End Feed of %d bytes = %d", len(more), errno)
			}
			if again, errno := parser.End(); again != nil || errno != api.ErrEnded {
				t.Errorf("P4: behind an End End() = %v, %d", again, errno)
			}
		}
		checkNodes(t, page, want)
	}
}

func TestFeedTooMuch(t *testing.T) {
	full := strings.Repeat("x", api.MaxBytes)
	for _, c := range []struct {
		taken, refused, rest string
	}{
		{"", full + "y", full},
		{"", full + full + full, "z"},
		{full, "y", ""},
		{full[1:], "yy", "z"},
		{full[5000:], "<p>" + full[:5000], "</p>"},
		{"<b>", full, "z"},
	} {
		parser := folio.New()
		if errno := parser.Feed(c.taken); errno != api.OK {
			t.Errorf("P4: Feed of %d bytes = %d", len(c.taken), errno)
		}
		for range 2 {
			if errno := parser.Feed(c.refused); errno != api.ErrLarge {
				t.Errorf("P4: behind %d bytes Feed of %d = %d", len(c.taken), len(c.refused), errno)
			}
		}
		if errno := parser.Feed(c.rest); errno != api.OK {
			t.Errorf("P4: behind %d bytes, and too many, Feed of %d = %d", len(c.taken), len(c.rest), errno)
		}
		checkNodes(t, ended(t, parser), fed(t, c.taken+c.rest).Nodes())
	}
}

func TestFeedUpToTheLimitByteByByte(t *testing.T) {
	parser := folio.New()
	for i := range api.MaxBytes {
		if errno := parser.Feed("é"[i%2 : i%2+1]); errno != api.OK {
			t.Fatalf("P4: Feed of byte %d = %d", i, errno)
		}
	}
	if errno := parser.Feed("x"); errno != api.ErrLarge {
		t.Errorf("P4: Feed of one byte too many = %d", errno)
	}
	if errno := parser.Feed(""); errno != api.OK {
		t.Errorf("P4: Feed of nothing behind the last byte = %d", errno)
	}
	checkNodes(t, ended(t, parser), []api.Node{
		element(-1, "html"), element(0, "head"), element(0, "body"), words(2, strings.Repeat("é", api.MaxBytes/2)),
	})
}

func TestParsersBesideEachOther(t *testing.T) {
	pages := []string{"<p>a<b>", manySorts, "<table><td>x", "", "\xc3"}
	var parsers []*folio.Parser
	for range pages {
		parsers = append(parsers, folio.New())
	}
	for place := range len(manySorts) {
		for i, page := range pages {
			if place < len(page) {
				parsers[i].Feed(page[place : place+1])
			}
		}
	}
	for i, page := range pages {
		checkNodes(t, ended(t, parsers[i]), fed(t, page).Nodes())
	}
}

func TestParsersAtTheSameTime(t *testing.T) {
	want := fed(t, manySorts).Nodes()
	var all sync.WaitGroup
	for size := range 16 {
		all.Go(func() {
			for range 20 {
				parser := folio.New()
				for _, piece := range cut(manySorts, size+1) {
					parser.Feed(piece)
				}
				if page, errno := parser.End(); errno != api.OK || !reflect.DeepEqual(page.Nodes(), want) {
					t.Errorf("P4: beside others, in pieces of %d: another page, %d", size+1, errno)
				}
			}
		})
	}
	all.Wait()
}

func TestPagesStandBesideEachOther(t *testing.T) {
	first := fed(t, "<p a=1>x")
	want := first.Nodes()
	second := fed(t, manySorts)
	checkNodes(t, first, want)
	checkNodes(t, second, fed(t, manySorts).Nodes())
}

func TestFeedKeepsNothingOfItsBytes(t *testing.T) {
	bytes := []byte("<p a=xyz>word<title>t</title>")
	parser := folio.New()
	parser.Feed(unsafe.String(&bytes[0], len(bytes)))
	for i := range bytes {
		bytes[i] = '!'
	}
	checkNodes(t, ended(t, parser), fed(t, "<p a=xyz>word<title>t</title>").Nodes())
}

func TestNodesGiveNewMemory(t *testing.T) {
	page := fed(t, manySorts)
	want := fed(t, manySorts).Nodes()
	for range 3 {
		spoil(page.Nodes())
		checkNodes(t, page, want)
	}
}

// spoil writes over all of a list and of the lists in it, their spare room too.
func spoil(nodes []api.Node) {
	nodes = nodes[:cap(nodes)]
	for i := range nodes {
		attrs := nodes[i].Attrs[:cap(nodes[i].Attrs)]
		for k := range attrs {
			attrs[k] = api.Attr{Name: "spoilt", Value: "spoilt"}
		}
		nodes[i] = api.Node{Kind: 9, Parent: 9, Name: "spoilt", Text: "spoilt"}
	}
}

func TestNodesShareNoLists(t *testing.T) {
	// The forms are opened again three times, with the same attributes.
	nodes := fed(t, "<html a=1 b=2 c=3><body a=1 b=2 c=3><p><b x=1 y=2 z=3><i x=1>1<p>2<p>3<p>4").Nodes()
	for i := range nodes {
		want := make([]api.Node, len(nodes))
		for k := range nodes {
			want[k] = nodes[k]
			want[k].Attrs = append([]api.Attr(nil), nodes[k].Attrs...)
		}
		attrs := nodes[i].Attrs[:cap(nodes[i].Attrs)]
		for k := range attrs {
			attrs[k].Value = "spoilt"
		}
		want[i] = nodes[i]
		if !reflect.DeepEqual(nodes, want) {
			t.Fatalf("P1: node %d shares its attributes: %+v", i, nodes)
		}
	}
}

func TestEndLeavesNoGoroutine(t *testing.T) {
	before := runtime.NumGoroutine()
	for range 100 {
		parser := folio.New()
		parser.Feed(manySorts)
		parser.Feed(strings.Repeat("x", api.MaxBytes))
		parser.End()
		parser.End()
		parser.Feed("x")
	}
	// A goroutine that has done its last work may be counted for a moment yet.
	for range 100 {
		if runtime.NumGoroutine() <= before {
			return
		}
		time.Sleep(time.Millisecond)
	}
	t.Errorf("P1: %d goroutines, %d ahead of the calls", runtime.NumGoroutine(), before)
}
