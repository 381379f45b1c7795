package folio_test

import (
	"fmt"
	"reflect"
	"strings"
	"testing"
	"unicode/utf8"

	"folio/api"
	"folio/folio"
)

// documentNames: the document's table; what counts without a ';' has a *.
var documentNames = []struct {
	name   string
	letter rune
}{
	{"amp*", 38}, {"lt*", 60}, {"gt*", 62}, {"quot*", 34}, {"apos", 39}, {"nbsp*", 160}, {"copy*", 169}, {"reg*", 174}, {"not*", 172},
	{"notin", 8713}, {"eacute*", 233}, {"euml*", 235}, {"euro", 8364}, {"ndash", 8211}, {"mdash", 8212}, {"hellip", 8230}, {"larr", 8592}, {"rarr", 8594},
}

// documentNumbers: the document's numbers from 128 to 159 that stand for others.
var documentNumbers = map[int]rune{128: 8364, 130: 8218, 133: 8230, 145: 8216, 146: 8217, 147: 8220, 148: 8221, 149: 8226, 150: 8211, 151: 8212, 153: 8482}

type referenceCase struct{ in, text, value string }

// checkReferences holds each against a text, a plain text, and a value of each form that can have it.
func checkReferences(t *testing.T, cases []referenceCase) {
	t.Helper()
	for _, c := range cases {
		checkTokens(t, []tokensCase{
			{c.in, tokensOf(text(c.text))},
			{"é" + c.in + "<b>", tokensOf(text("é"+c.text), start("b"))},
			{"<title>" + c.in + "</title>", tokensOf(start("title"), text(c.text), end("title"))},
			{"<a b=\"" + c.in + "\">", tokensOf(start("a", "b", c.value))},
			{"<a b='|" + c.in + "'c>", tokensOf(start("a", "b", "|"+c.value, "c", ""))},
			{"<a b=" + c.in + ">", tokensOf(start("a", "b", c.value))},
			{"<a b=" + c.in + " c=" + c.in + "\t>", tokensOf(start("a", "b", c.value, "c", c.value))},
			{"<!--" + c.in + "-->", tokensOf(comment(c.in))},
			{"<style>" + c.in + "</style>", tokensOf(start("style"), text(c.in), end("style"))},
		})
	}
}

func TestReferencesByName(t *testing.T) {
	for _, n := range documentNames {
		name, bare := strings.CutSuffix(n.name, "*")
		letter, itself := string(n.letter), "&"+name
		text, value := itself, itself
		if bare {
			text, value = letter, letter
		}
		if name == "notin" {
			text = "¬in"
		}
		checkReferences(t, []referenceCase{
			{itself + ";", letter, letter},
			{itself + ";;", letter + ";", letter + ";"},
			{itself + ";x", letter + "x", letter + "x"},
			{itself + ";=", letter + "=", letter + "="},
			{"&" + itself + ";", "&" + letter, "&" + letter},
			{"&;" + name + ";", "&;" + name + ";", "&;" + name + ";"},
			{itself, text, value},
			{itself + "é", text + "é", value + "é"},
			{itself + "&", text + "&", value + "&"},
			{itself + "-", text + "-", value + "-"},
			{itself + "#", text + "#", value + "#"},
			{itself + "x", text + "x", itself + "x"},
			{itself + "Z;", text + "Z;", itself + "Z;"},
			{itself + "0", text + "0", itself + "0"},
			{itself + "9;", text + "9;", itself + "9;"},
			{itself + "=", text + "=", itself + "="},
		})
		if short := itself[:len(itself)-1]; name != "notin" {
			checkReferences(t, []referenceCase{{short, short, short}, {short + ";", short + ";", short + ";"}})
		}
	}
}

func TestReferencesOddNames(t *testing.T) {
	checkReferences(t, []referenceCase{
		{"&", "&", "&"},
		{"&;", "&;", "&;"},
		{"&&", "&&", "&&"},
		{"&&amp;amp;", "&&amp;", "&&amp;"},
		{"&AMP;", "&AMP;", "&AMP;"},
		{"&Amp;", "&Amp;", "&Amp;"},
		{"&LT", "&LT", "&LT"},
		{"&Eacute;", "&Eacute;", "&Eacute;"},
		{"&zzz;", "&zzz;", "&zzz;"},
		{"&notin;", "∉", "∉"},
		{"&notin", "¬in", "&notin"},
		{"&notinx;", "¬inx;", "&notinx;"},
		{"&notit;", "¬it;", "&notit;"},
		{"&not;in;", "¬in;", "¬in;"},
		{"&not-in;", "¬-in;", "¬-in;"},
		{"&gtlt;", ">lt;", "&gtlt;"},
		{"&lt&gt&amp", "<>&", "<>&"},
		{"&amp;lt;", "&lt;", "&lt;"},
		{"&aamp;", "&aamp;", "&aamp;"},
		{"?a=1&copy=2&reg=3&lt;4", "?a=1©=2®=3<4", "?a=1&copy=2&reg=3<4"},
		{"&amp\u0660", "&\u0660", "&\u0660"},
	})
}

func TestReferencesByNumber(t *testing.T) {
	checkReferences(t, []referenceCase{
		{"&#65;", "A", "A"}, {"&#65", "A", "A"}, {"&#65;;", "A;", "A;"}, {"&#65x", "Ax", "Ax"}, {"&#65=", "A=", "A="}, {"&#65é", "Aé", "Aé"},
		{"&#x41;", "A", "A"}, {"&#X41;", "A", "A"}, {"&#x41", "A", "A"}, {"&#x4aG", "JG", "JG"}, {"&#x4Ag;", "Jg;", "Jg;"}, {"&#x41=", "A=", "A="},
		{"&#xabcdef;", no, no}, {"&#xAbC;", "\u0abc", "\u0abc"}, {"&#xdef", "\u0def", "\u0def"}, {"&#xDEF", "\u0def", "\u0def"},
		{"&#10a", "\na", "\na"}, {"&#1f;", "\x01f;", "\x01f;"}, {"&#65&#66", "AB", "AB"},
		{"&#38;lt;", "&lt;", "&lt;"}, {"&#60;b", "<b", "<b"}, {"&#13;", "\r", "\r"}, {"&#13;&#10;", "\r\n", "\r\n"}, {"&#65279;", "\ufeff", "\ufeff"},
	})
}

func TestReferencesWithoutNumber(t *testing.T) {
	for _, in := range []string{"&#", "&#;", "&#a", "&#-1;", "&#+1;", "&##65;", "&#\u0661;", "&#_65;", "&#x", "&#X;", "&#xg", "&#xx41;", "&#x-41;", "&#x_41;", "&x41;", "&65;", "&#\uff11;"} {
		checkReferences(t, []referenceCase{{in, in, in}})
	}
	checkReferences(t, []referenceCase{
		{"&#&#65;", "&#A", "&#A"}, {"&#x&amp;", "&#x&", "&#x&"}, {"&#6_5;", "\x06_5;", "\x06_5;"}, {"&#0x41;", no + "x41;", no + "x41;"},
	})
}

func TestReferencesThatAreNoLetters(t *testing.T) {
	checkReferences(t, []referenceCase{
		{"&#0;", no, no}, {"&#000", no, no}, {"&#x0", no, no},
		{"&#55295;", "\ud7ff", "\ud7ff"}, {"&#55296;", no, no}, {"&#57343;", no, no}, {"&#57344;", "\ue000", "\ue000"}, {"&#xd800", no, no}, {"&#xDFFF", no, no},
		{"&#1114111;", "\U0010ffff", "\U0010ffff"}, {"&#1114112;", no, no}, {"&#x10FFFF", "\U0010ffff", "\U0010ffff"}, {"&#x110000", no, no},
		{"&#65533;", no, no}, {"&#65534;", "\ufffe", "\ufffe"}, {"&#65535;", "\uffff", "\uffff"},
	})
	// Numbers that wrap round to that of a letter.
	for _, number := range []string{"4294967361", "18446744073709551681", "x100000041", "x10000000000000041", "340282366920938463463374607431768211521", "9999999999999999999999999999", "xffffffffffffffffffffffff"} {
		checkReferences(t, []referenceCase{{"&#" + number + ";a", no + "a", no + "a"}, {"&#" + number, no, no}})
	}
	checkReferences(t, []referenceCase{{"&#000000000000000000000000000000065;", "A", "A"}, {"&#x00000000000000000000000041", "A", "A"}})
}

func TestReferencesOfEveryNumber(t *testing.T) {
	for number := range 0x3000 {
		want := rune(number)
		if other, there := documentNumbers[number]; there {
			want = other
		} else if number == 0 {
			want = utf8.RuneError
		}
		in := fmt.Sprintf("&#%d;|&#x%x|&#X%X;", number, number, number)
		all := fmt.Sprintf("%c|%c|%c", want, want, want)
		if got, errno := folio.Tokens(in); !reflect.DeepEqual(got, tokensOf(text(all))) || errno != api.OK {
			t.Errorf("P3: Tokens(%q) = %+v, %d, want %q", in, got, errno, all)
		}
	}
}
