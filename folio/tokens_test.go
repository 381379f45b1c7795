package folio_test

import (
	"fmt"
	"reflect"
	"runtime"
	"strings"
	"sync"
	"testing"
	"time"
	"unsafe"

	"folio/api"
	"folio/folio"
)

func text(words string) api.Token    { return api.Token{Kind: api.Text, Text: words} }
func comment(words string) api.Token { return api.Token{Kind: api.Comment, Text: words} }
func doctype(name string) api.Token  { return api.Token{Kind: api.Doctype, Name: name} }
func end(name string) api.Token      { return api.Token{Kind: api.End, Name: name} }

// start takes names and values of attributes in turn.
func start(name string, attrs ...string) api.Token {
	token := api.Token{Kind: api.Start, Name: name}
	for i := 0; i < len(attrs); i += 2 {
		token.Attrs = append(token.Attrs, api.Attr{Name: attrs[i], Value: attrs[i+1]})
	}
	return token
}

func closed(token api.Token) api.Token {
	token.Closed = true
	return token
}

type tokensCase struct {
	text string
	want []api.Token
}

func tokensOf(tokens ...api.Token) []api.Token { return tokens }

func checkTokens(t *testing.T, cases []tokensCase) {
	t.Helper()
	for _, c := range cases {
		if got, errno := folio.Tokens(c.text); !reflect.DeepEqual(got, c.want) || errno != api.OK {
			t.Errorf("P3: Tokens(%q) = %+v, %d, want %+v", c.text, got, errno, c.want)
		}
	}
}

func TestTokensOrdinary(t *testing.T) {
	checkTokens(t, []tokensCase{
		{"", nil},
		{"a b\nc", tokensOf(text("a b\nc"))},
		{"<P Class=a title='x &amp; y'>a<b/>&notit; &#233;</p >", tokensOf(start("p", "class", "a", "title", "x & y"), text("a"), closed(start("b")), text("¬it; é"), end("p"))},
		{"<!DOCTYPE html><html><head><title>T</title></head><body>w<!-- c --></body></html>\n", tokensOf(
			doctype("html"), start("html"), start("head"), start("title"), text("T"), end("title"), end("head"),
			start("body"), text("w"), comment(" c "), end("body"), end("html"), text("\n"))},
	})
}

func TestTokensWhatALessBegins(t *testing.T) {
	checkTokens(t, []tokensCase{
		{"<", tokensOf(text("<"))},
		{"<<a>", tokensOf(text("<"), start("a"))},
		{"a<", tokensOf(text("a<"))},
		{"a < b", tokensOf(text("a < b"))},
		{"<1>", tokensOf(text("<1>"))},
		{"<>", tokensOf(text("<>"))},
		{"<é>", tokensOf(text("<é>"))},
		{"<\u212a>", tokensOf(text("<\u212a>"))},
		{"<@><[><`><{>", tokensOf(text("<@><[><`><{>"))},
		{"<a><z><A><Z>", tokensOf(start("a"), start("z"), start("a"), start("z"))},
		{"</a></Z>", tokensOf(end("a"), end("z"))},
		{"</é>", tokensOf(comment("é"))},
		{"</1>x", tokensOf(comment("1"), text("x"))},
		{"</ a>x", tokensOf(comment(" a"), text("x"))},
		{"<//>x", tokensOf(comment("/"), text("x"))},
		{"</ >", tokensOf(comment(" "))},
		{"</<a>", tokensOf(comment("<a"))},
		{"</!", tokensOf(comment("!"))},
		{"a</", tokensOf(text("a</"))},
		{"</", tokensOf(text("</"))},
		{"</</", tokensOf(comment("</"))},
		{"<?", tokensOf(comment("?"))},
		{"<?>", tokensOf(comment("?"))},
		{"<?xml a?>b", tokensOf(comment("?xml a?"), text("b"))},
		{"<?a--b", tokensOf(comment("?a--b"))},
		{"<!", tokensOf(comment(""))},
		{"<!>a", tokensOf(comment(""), text("a"))},
		{"<!a&amp;b>c", tokensOf(comment("a&amp;b"), text("c"))},
		{"<!-", tokensOf(comment("-"))},
		{"<!->a", tokensOf(comment("-"), text("a"))},
		{"<!-a-->b", tokensOf(comment("-a--"), text("b"))},
		{"<! --a-->b", tokensOf(comment(" --a--"), text("b"))},
		{"<![CDATA[x]]>", tokensOf(comment("[CDATA[x]]"))},
	})
}

func TestTokensNothing(t *testing.T) {
	checkTokens(t, []tokensCase{
		{"</>", nil},
		{"</></>", nil},
		{"a</>b", tokensOf(text("ab"))},
		{"a</></>b</>", tokensOf(text("ab"))},
		{"<</>a>", tokensOf(text("<a>"))},
		{"a<</></b>", tokensOf(text("a<"), end("b"))},
		{"<a></><b>", tokensOf(start("a"), start("b"))},
		{"a</><b></>c", tokensOf(text("a"), start("b"), text("c"))},
		{"&am</>p;", tokensOf(text("&amp;"))},
		{"&amp</>;", tokensOf(text("&;"))},
		{"&</>amp;", tokensOf(text("&amp;"))},
		{"&#6</>5;", tokensOf(text("\x065;"))},
		{"&#</>65;", tokensOf(text("&#65;"))},
		{"&not</>in;", tokensOf(text("¬in;"))},
		{"&lt;</>/a>", tokensOf(text("</a>"))},
		{"<!--</>-->", tokensOf(comment("</>"))},
	})
}

func TestTokensComments(t *testing.T) {
	checkTokens(t, []tokensCase{
		{"<!---->a", tokensOf(comment(""), text("a"))},
		{"<!-->a", tokensOf(comment(""), text("a"))},
		{"<!--->a", tokensOf(comment(""), text("a"))},
		{"<!--!>a", tokensOf(comment(""), text("a"))},
		{"<!---!>a", tokensOf(comment(""), text("a"))},
		{"<!----!>a", tokensOf(comment(""), text("a"))},
		{"<!----->a", tokensOf(comment("-"), text("a"))},
		{"<!--a-->b-->", tokensOf(comment("a"), text("b-->"))},
		{"<!--a--!>b-->", tokensOf(comment("a"), text("b-->"))},
		{"<!--a-->b--!>", tokensOf(comment("a"), text("b--!>"))},
		{"<!--a->b--c>--->d", tokensOf(comment("a->b--c>-"), text("d"))},
		{"<!--a-!>b--!-->c", tokensOf(comment("a-!>b--!"), text("c"))},
		{"<!--a--!b-->c", tokensOf(comment("a--!b"), text("c"))},
		{"<!-- > -->c", tokensOf(comment(" > "), text("c"))},
		{"<!-- !> -->c", tokensOf(comment(" !> "), text("c"))},
		{"<!--<!--a-->-->", tokensOf(comment("<!--a"), text("-->"))},
		{"<!--<b>&lt;\r\x00-->", tokensOf(comment("<b>&lt;\r\x00"))},
		{"<!--", tokensOf(comment(""))},
		{"<!---", tokensOf(comment("-"))},
		{"<!----", tokensOf(comment("--"))},
		{"<!----!", tokensOf(comment("--!"))},
		{"<!--!", tokensOf(comment("!"))},
		{"<!--a", tokensOf(comment("a"))},
		{"<!--a--", tokensOf(comment("a--"))},
		{"a<!--b-->c", tokensOf(text("a"), comment("b"), text("c"))},
	})
}

func TestTokensDoctypes(t *testing.T) {
	checkTokens(t, []tokensCase{
		{"<!doctype html>", tokensOf(doctype("html"))},
		{"<!DoCtYpE HtMl>", tokensOf(doctype("html"))},
		{"<!doctypehtml>", tokensOf(doctype("html"))},
		{"<!doctype/>", tokensOf(doctype("/"))},
		{"<!doctype \t\r\n\fa/b='>'>c", tokensOf(doctype("a/b='"), text("'>c"))},
		{"<!doctype a b c >d", tokensOf(doctype("a"), text("d"))},
		{"<!doctype ÀZ>", tokensOf(doctype("Àz"))},
		{"<!doctype a&amp;>", tokensOf(doctype("a&amp;"))},
		{"<!doctype>a", tokensOf(doctype(""), text("a"))},
		{"<!doctype  >a", tokensOf(doctype(""), text("a"))},
		{"<!doctype", tokensOf(doctype(""))},
		{"<!doctype ", tokensOf(doctype(""))},
		{"<!doctype a", tokensOf(doctype("a"))},
		{"<!doctype a b", tokensOf(doctype("a"))},
		{"<!doctyp>", tokensOf(comment("doctyp"))},
		{"<! doctype>", tokensOf(comment(" doctype"))},
		{"<!doctyp", tokensOf(comment("doctyp"))},
		{"a<!doctype>b", tokensOf(text("a"), doctype(""), text("b"))},
	})
}

func TestTokensTags(t *testing.T) {
	checkTokens(t, []tokensCase{
		{"<aB1-:é\"'=<b>", tokensOf(start("ab1-:é\"'=<b"))},
		{"<AÉ\u212a>", tokensOf(start("aÉ\u212a"))},
		{"<a\tb\nc\fd\re f>", tokensOf(start("a", "b", "", "c", "", "d", "", "e", "", "f", ""))},
		{"<a\vb>", tokensOf(start("a\vb"))},
		{"<a\u00a0b>", tokensOf(start("a\u00a0b"))},
		{"<a/b/c>", tokensOf(start("a", "b", "", "c", ""))},
		{"<a >", tokensOf(start("a"))},
		{"<a&amp;>", tokensOf(start("a&amp;"))},
		{"</a>", tokensOf(end("a"))},
		{"</A b=c d='>' / >e", tokensOf(end("a"), text("e"))},
		{"</a/>", tokensOf(end("a"))},
		{"</a b/>", tokensOf(end("a"))},
	})
}

func TestTokensClosed(t *testing.T) {
	checkTokens(t, []tokensCase{
		{"<a/>", tokensOf(closed(start("a")))},
		{"<a />", tokensOf(closed(start("a")))},
		{"<a//>", tokensOf(closed(start("a")))},
		{"<a/ />", tokensOf(closed(start("a")))},
		{"<a / >", tokensOf(start("a"))},
		{"<a/ >", tokensOf(start("a"))},
		{"<a/b>", tokensOf(start("a", "b", ""))},
		{"<a b/>", tokensOf(closed(start("a", "b", "")))},
		{"<a b />", tokensOf(closed(start("a", "b", "")))},
		{"<a b =/>", tokensOf(start("a", "b", "/"))},
		{"<a b=/>", tokensOf(start("a", "b", "/"))},
		{"<a b= />", tokensOf(start("a", "b", "/"))},
		{"<a b=c/>", tokensOf(start("a", "b", "c/"))},
		{"<a b=c />", tokensOf(closed(start("a", "b", "c")))},
		{"<a b=/ />", tokensOf(closed(start("a", "b", "/")))},
		{"<a b=/ >", tokensOf(start("a", "b", "/"))},
		{"<a b='c'/>", tokensOf(closed(start("a", "b", "c")))},
		{"<a b='c/'>", tokensOf(start("a", "b", "c/"))},
		{"<a b=\"/\">", tokensOf(start("a", "b", "/"))},
		{"<a/ b=>", tokensOf(start("a", "b", ""))},
		{"<a b=/c>", tokensOf(start("a", "b", "/c"))},
	})
}

func TestTokensAttributes(t *testing.T) {
	checkTokens(t, []tokensCase{
		{"<a b=\"c\" d='e' f=g h>", tokensOf(start("a", "b", "c", "d", "e", "f", "g", "h", ""))},
		{"<a b \n=\r\t c>", tokensOf(start("a", "b", "c"))},
		{"<a b = 'c' = 'd'>", tokensOf(start("a", "b", "c", "=", "", "'d'", ""))},
		{"<a b=\"'>/ \n\" c='\">/ '>", tokensOf(start("a", "b", "'>/ \n", "c", "\">/ "))},
		{"<a b=c\"d'e=f`<g/h>", tokensOf(start("a", "b", "c\"d'e=f`<g/h"))},
		{"<a b=''c=\"\"d>", tokensOf(start("a", "b", "", "c", "", "d", ""))},
		{"<a b='c'd'>", tokensOf(start("a", "b", "c", "d'", ""))},
		{"<a b=>c>", tokensOf(start("a", "b", ""), text("c>"))},
		{"<a b=  >c>", tokensOf(start("a", "b", ""), text("c>"))},
		{"<a =>", tokensOf(start("a", "=", ""))},
		{"<a ==>", tokensOf(start("a", "=", ""))},
		{"<a ===>", tokensOf(start("a", "=", "="))},
		{"<a =b=c>", tokensOf(start("a", "=b", "c"))},
		{"<a = b>", tokensOf(start("a", "=", "", "b", ""))},
		{"<a = =b>", tokensOf(start("a", "=", "b"))},
		{"<a b\"'<é=c>", tokensOf(start("a", "b\"'<é", "c"))},
		{"<a \"b\">", tokensOf(start("a", "\"b\"", ""))},
		{"<a BÉ=BÉ>", tokensOf(start("a", "bÉ", "BÉ"))},
		{"<a b&amp;c=&amp;>", tokensOf(start("a", "b&amp;c", "&"))},
		{"<a b= =c>", tokensOf(start("a", "b", "=c"))},
		{"<a b/=c>", tokensOf(start("a", "b", "", "=c", ""))},
		{"<a b=\r\x00c>", tokensOf(start("a", "b", "\x00c"))},
		{"<a b='\r\x00'>", tokensOf(start("a", "b", "\r\x00"))},
	})
}

func TestTokensAttributesLeftOut(t *testing.T) {
	checkTokens(t, []tokensCase{
		{"<a b=1 b=2>", tokensOf(start("a", "b", "1"))},
		{"<a b B=2 c=3 C>", tokensOf(start("a", "b", "", "c", "3"))},
		{"<a é=1 É=2>", tokensOf(start("a", "é", "1", "É", "2"))},
		{"<a b b='>' c>", tokensOf(start("a", "b", "", "c", ""))},
		{"<a b b/>", tokensOf(closed(start("a", "b", "")))},
	})
	var row strings.Builder
	want := start("a")
	for i := range 2 * api.MaxAttrs {
		fmt.Fprintf(&row, " n%d=%d", i, i)
		if i < api.MaxAttrs {
			want.Attrs = append(want.Attrs, api.Attr{Name: fmt.Sprint("n", i), Value: fmt.Sprint(i)})
		}
	}
	checkTokens(t, []tokensCase{
		{"<a" + row.String() + ">b", tokensOf(want, text("b"))},
		{"<a" + row.String() + " n0=x z='>'/>b", tokensOf(closed(want), text("b"))},
		{"<a n0=0 n0=x n0=y" + row.String() + ">", tokensOf(want)},
		{"<a" + row.String() + "></a" + row.String() + ">", tokensOf(want, end("a"))},
		{"<a" + row.String() + "><b" + row.String() + " c='", tokensOf(want)},
		{"<a" + row.String() + "><b c>", tokensOf(want, start("b", "c", ""))},
	})
}

func TestTokensAllEndsInATag(t *testing.T) {
	for _, tag := range []string{"a", "a ", "a/", "a b", "a b ", "a b=", "a b= ", "a b=c", "a b=c ", "a b='", "a b='c", "a b='>", "a b='c'", "a b=\"", "a b=\">'>", "a b='c' /", "a =", "a <b", "script", "title ", "a &amp;"} {
		checkTokens(t, []tokensCase{
			{"<" + tag, nil},
			{"</" + tag, nil},
			{"x&amp;<" + tag, tokensOf(text("x&"))},
			{"x</" + tag, tokensOf(text("x"))},
			{"<p></" + tag, tokensOf(start("p"))},
		})
	}
}

func TestTokensRawTexts(t *testing.T) {
	for _, name := range []string{"script", "style"} {
		in := func(inner string) string { return strings.ReplaceAll(inner, "%", name) }
		checkTokens(t, []tokensCase{
			{in("<%></%>"), tokensOf(start(name), end(name))},
			{in("<%>a</%>b"), tokensOf(start(name), text("a"), end(name), text("b"))},
			{in("a<% b=c>d</%>"), tokensOf(text("a"), start(name, "b", "c"), text("d"), end(name))},
			{in("<%/>a</%>"), tokensOf(closed(start(name)), text("a"), end(name))},
			{in("<%>&amp;&lt&#65;</%>&amp;"), tokensOf(start(name), text("&amp;&lt&#65;"), end(name), text("&"))},
			{in("<%><b><!--</></b><?<!doctype></%>"), tokensOf(start(name), text("<b><!--</></b><?<!doctype>"), end(name))},
			{in("<%><%></%></%>"), tokensOf(start(name), text(in("<%>")), end(name), end(name))},
			{in("<%></%x></ %></%-></%é></%</%>"), tokensOf(start(name), text(in("</%x></ %></%-></%é></%")), end(name))},
			{in("<%><</%/></%"), tokensOf(start(name), text("<"), end(name))},
			{in("<%>a</% b='>'/>c"), tokensOf(start(name), text("a"), end(name), text("c"))},
			{in("<%>\r\x00\xff</%\r>"), tokensOf(start(name), text("\r\x00"+no), end(name))},
			{in("<%>"), tokensOf(start(name))},
			{in("<%>a<b>"), tokensOf(start(name), text("a<b>"))},
			{in("<%>a</%"), tokensOf(start(name), text(in("a</%")))},
			{in("<%>a</% "), tokensOf(start(name), text("a"))},
			{in("<%>a</%\t b='>x"), tokensOf(start(name), text("a"))},
			{in("<%>a</%/"), tokensOf(start(name), text("a"))},
			{in("<%></%\n"), tokensOf(start(name))},
			{in("</%><b>"), tokensOf(end(name), start("b"))},
			{in("<%x><b>"), tokensOf(start(name+"x"), start("b"))},
		})
		upper := strings.ToUpper(name)
		checkTokens(t, []tokensCase{
			{"<" + upper + ">a</" + name + ">", tokensOf(start(name), text("a"), end(name))},
			{"<" + name + ">a</" + upper + "\f>", tokensOf(start(name), text("a"), end(name))},
			{"<" + name + ">a</\u017f" + name[1:] + "></" + name + ">", tokensOf(start(name), text("a</\u017f"+name[1:]+">"), end(name))},
		})
	}
	checkTokens(t, []tokensCase{{"<script></style></script>", tokensOf(start("script"), text("</style>"), end("script"))}})
}

func TestTokensPlainTexts(t *testing.T) {
	for _, name := range []string{"title", "textarea"} {
		in := func(inner string) string { return strings.ReplaceAll(inner, "%", name) }
		checkTokens(t, []tokensCase{
			{in("<%></%>"), tokensOf(start(name), end(name))},
			{in("<%/>a<b></%>c"), tokensOf(closed(start(name)), text("a<b>"), end(name), text("c"))},
			{in("<%>&amp;&ltx&#65a&apos</%>"), tokensOf(start(name), text("&<xAa&apos"), end(name))},
			{in("<%>&am</>p;<!--&gt;--></%>"), tokensOf(start(name), text("&am</>p;<!-->-->"), end(name))},
			{in("<%>&lt;/%></%>"), tokensOf(start(name), text(in("</%>")), end(name))},
			{in("<%></%x></%/a>"), tokensOf(start(name), text(in("</%x>")), end(name))},
			{in("<%>&amp"), tokensOf(start(name), text("&"))},
			{in("<%>&amp</%"), tokensOf(start(name), text(in("&</%")))},
			{in("<%>&amp</% "), tokensOf(start(name), text("&"))},
			{in("<%>\n</%>"), tokensOf(start(name), text("\n"), end(name))},
			{in("</%><b>"), tokensOf(end(name), start("b"))},
		})
	}
	checkTokens(t, []tokensCase{
		{"<TITLE>a</tItLe>", tokensOf(start("title"), text("a"), end("title"))},
		{"<title></textarea><title>", tokensOf(start("title"), text("</textarea><title>"))},
		{"<pre><b></pre>", tokensOf(start("pre"), start("b"), end("pre"))},
	})
}

func TestTokensLettersAsTheyAre(t *testing.T) {
	checkTokens(t, []tokensCase{
		{"\r\n\r\x00", tokensOf(text("\r\n\r\x00"))},
		{"\ufeffa", tokensOf(text("\ufeffa"))},
		{"a\xffb\xe2\x82c\xf0\x9f\x98", tokensOf(text("a" + no + "b" + no + no + "c" + no + no + no))},
		{"\xed\xa0\x80\xc0\x80\xf4\x90\x80\x80", tokensOf(text(strings.Repeat(no, 9)))},
		{"<a\xff \xe2\x82=\xc3>", tokensOf(start("a"+no, no+no, no))},
		{"<\xff>", tokensOf(text("<" + no + ">"))},
		{"<!\xff><!--\xff--><!doctype \xff></a\xff>", tokensOf(comment(no), comment(no), doctype(no), end("a"+no))},
		{"<a\x00 \x00b=\x00>", tokensOf(start("a\x00", "\x00b", "\x00"))},
		{"<script>\xe2\x82</script>", tokensOf(start("script"), text(no+no), end("script"))},
		{"&amp\xff;", tokensOf(text("&" + no + ";"))},
	})
}

func TestTokensLimit(t *testing.T) {
	for _, unit := range []string{"x", "<", "&", "<a ", "</", "</>", "<!--", "<a b='", "&#9", "&am", "<a>", "<b/>", "\xff", "é", "<script>", "</title>", "<a =", "-->", "<!"} {
		full := strings.Repeat(unit, api.MaxBytes/len(unit)+1)[:api.MaxBytes]
		got, errno := folio.Tokens(full)
		if want := referenceTokens(full); !reflect.DeepEqual(got, want) || errno != api.OK {
			t.Errorf("P3: %d bytes of %q: %d tokens, %d, want %d", len(full), unit, len(got), errno, len(want))
		}
		for _, more := range []string{full + "x", "</>" + full, full + full} {
			if got, errno := folio.Tokens(more); got != nil || errno != api.ErrLarge {
				t.Errorf("P3: %d bytes of %q: %d tokens, %d, want ErrLarge alone", len(more), unit, len(got), errno)
			}
		}
	}
	if got, errno := folio.Tokens("&#" + strings.Repeat("0", api.MaxBytes-4) + "65"); !reflect.DeepEqual(got, tokensOf(text("A"))) || errno != api.OK {
		t.Errorf("P3: a reference of all bytes: %+v, %d", got, errno)
	}
}

const manyTokens = "a<b c=d e=f><b c=d e=f>a<!--a--><!doctype b></b></c><title>a</title>"

func TestTokensGiveNewMemory(t *testing.T) {
	first, _ := folio.Tokens(manyTokens)
	want := referenceTokens(manyTokens)
	for i := range first {
		first[i].Name, first[i].Text = "?", "?"
		for j := range first[i].Attrs {
			first[i].Attrs[j] = api.Attr{Name: "?", Value: "?"}
		}
		spare := first[i].Attrs[len(first[i].Attrs):cap(first[i].Attrs)]
		for j := range spare {
			spare[j] = api.Attr{Name: "?", Value: "?"}
		}
	}
	spare := first[len(first):cap(first)]
	for i := range spare {
		spare[i] = text("?")
	}
	if second, _ := folio.Tokens(manyTokens); !reflect.DeepEqual(second, want) {
		t.Errorf("P1: behind a change of an answer: %+v", second)
	}
}

func TestTokensShareNoLists(t *testing.T) {
	list, _ := folio.Tokens(manyTokens)
	var twice []int
	for i := range list {
		if list[i].Kind == api.Start && len(list[i].Attrs) == 2 {
			twice = append(twice, i)
		}
	}
	if len(twice) != 2 {
		t.Fatalf("P3: %+v", list)
	}
	one, other := list[twice[0]].Attrs, list[twice[1]].Attrs
	whole := one[:cap(one)]
	for i := range whole {
		whole[i] = api.Attr{Name: "?", Value: "?"}
	}
	_ = append(one, api.Attr{Name: "?"}, api.Attr{Name: "?"})
	if want := start("b", "c", "d", "e", "f").Attrs; !reflect.DeepEqual(other, want) {
		t.Errorf("P1: two lists share memory: %+v", other)
	}
}

func TestTokensKeepNothingOfTheText(t *testing.T) {
	words := strings.Repeat("abc", 100)
	page := "<p " + words + "=" + words + ">" + words + "<!--" + words + "-->"
	inside := func(part string) bool {
		from, to := uintptr(unsafe.Pointer(unsafe.StringData(page))), uintptr(unsafe.Pointer(unsafe.StringData(part)))
		return to >= from && to < from+uintptr(len(page))
	}
	list, _ := folio.Tokens(page)
	if len(list) != 3 {
		t.Fatalf("P3: %+v", list)
	}
	if inside(list[0].Name) || inside(list[0].Attrs[0].Name) || inside(list[0].Attrs[0].Value) || inside(list[1].Text) || inside(list[2].Text) {
		t.Errorf("P1: a token's text stands in the text that was handed in")
	}
}

func TestTokensLeaveNoGoroutine(t *testing.T) {
	before := runtime.NumGoroutine()
	for range 200 {
		folio.Tokens(manyTokens)
		folio.Tokens("<a b='")
		folio.Tokens(strings.Repeat("x", api.MaxBytes+1))
	}
	// A goroutine that has done its last work may be counted for a moment yet.
	for range 100 {
		if runtime.NumGoroutine() <= before {
			return
		}
		time.Sleep(time.Millisecond)
	}
	t.Errorf("P1: %d goroutines, %d ahead of the calls", runtime.NumGoroutine(), before)
}

func TestTokensSideBySide(t *testing.T) {
	var calls sync.WaitGroup
	for i := range 50 {
		calls.Go(func() {
			in := strings.Repeat(manyTokens, i)
			want := referenceTokens(in)
			for range 10 {
				if got, errno := folio.Tokens(in); !reflect.DeepEqual(got, want) || errno != api.OK {
					t.Errorf("P1: Tokens of %d tokens at once: %+v, %d", len(want), got, errno)
				}
			}
		})
	}
	calls.Wait()
}
