package tree

import (
	"maps"
	"math/rand/v2"
	"reflect"
	"testing"

	"folio/api"
	"folio/names"
)

// table is one of the tables, beside the rules that it was filled by.
type table struct {
	name  string
	deeds deeds
	rules rules
}

func tables() []table {
	return []table{
		{"earlyStarts", earlyStarts, earlyStartRules},
		{"earlyEnds", earlyEnds, earlyEndRules},
		{"starts", starts, startRules},
		{"ends", ends, endRules},
	}
}

// someNames are those of all sorts, and some for which no rule asks.
func someNames() []string {
	list := []string{"html", "head", "body", "li", "dd", "dt", "option", "textarea", "span", "x", "h7", "é"}
	for _, sort := range [][]string{names.Void(), names.Heads(), names.Blocks(), names.Forms(), names.Tabled()} {
		list = append(list, sort...)
	}
	return list
}

func start(name string) api.Token {
	return api.Token{Kind: api.Start, Name: name, Attrs: []api.Attr{{Name: "k", Value: name}}}
}

func end(name string) api.Token { return api.Token{Kind: api.End, Name: name} }

func text(words string) api.Token { return api.Token{Kind: api.Text, Text: words} }

func checkSame(t *testing.T, list ...api.Token) {
	t.Helper()
	if got, want := ByTable(list), Of(list); !reflect.DeepEqual(got, want) {
		t.Fatalf("P4: of %+v\nthe tables give %+v\n      the rules %+v", list, got, want)
	}
}

func TestByTableOrdinary(t *testing.T) {
	list := []api.Token{start("ul"), start("li"), text("a"), start("li"), start("b"), text("c"), end("ul"), text("d")}
	attr := func(value string) []api.Attr { return []api.Attr{{Name: "k", Value: value}} }
	want := []api.Node{
		{Kind: api.Element, Parent: -1, Name: "html"}, {Kind: api.Element, Name: "head"}, {Kind: api.Element, Name: "body"},
		{Kind: api.Element, Parent: 2, Name: "ul", Attrs: attr("ul")},
		{Kind: api.Element, Parent: 3, Name: "li", Attrs: attr("li")}, {Kind: api.Words, Parent: 4, Text: "a"},
		{Kind: api.Element, Parent: 3, Name: "li", Attrs: attr("li")}, {Kind: api.Element, Parent: 6, Name: "b", Attrs: attr("b")}, {Kind: api.Words, Parent: 7, Text: "c"},
		{Kind: api.Element, Parent: 2, Name: "b", Attrs: attr("b")}, {Kind: api.Words, Parent: 9, Text: "d"},
	}
	for way, got := range map[string][]api.Node{"Of": Of(list), "ByTable": ByTable(list)} {
		if !reflect.DeepEqual(got, want) {
			t.Errorf("P4: %s gives %+v, want %+v", way, got, want)
		}
	}
	checkSame(t)
}

func TestByTableGivesWhatOfGives(t *testing.T) {
	list := someNames()
	for _, one := range list {
		for _, other := range list {
			checkSame(t, start(one), start(other), text("x"), end(one), text("y"))
			checkSame(t, start("table"), start("td"), start("b"), start(one), start("i"), text(" "), end(other), text("x"))
			checkSame(t, start("div"), start("b"), start(one), end("div"), start(other), text("x"), end("b"), start("a"))
			checkSame(t, end(one), end(other), start(one), text("x"))
		}
	}
	chance := rand.New(rand.NewPCG(13, 14))
	for range 3000 {
		var tokens []api.Token
		for range 1 + chance.IntN(80) {
			name := list[chance.IntN(len(list))]
			tokens = append(tokens, []api.Token{start(name), start(name), end(name), text("x"), text(" "), {Kind: api.Comment, Text: name}}[chance.IntN(6)])
		}
		checkSame(t, tokens...)
	}
}

func TestTablesAreFilled(t *testing.T) {
	for _, table := range tables() {
		if len(table.deeds) == 0 || len(table.deeds[others]) == 0 {
			t.Errorf("%s is empty, or has nothing for other names", table.name)
		}
		for _, name := range someNames() {
			if got, want := len(table.deeds.of(name)), len(table.rules.of(name)); got != want || want == 0 {
				t.Errorf("%s has %d deeds for %s, want %d", table.name, got, name, want)
			}
		}
	}
}

// TestOfComesToNoTable takes from the tables all that they have, and gives it back.
func TestOfComesToNoTable(t *testing.T) {
	list := []api.Token{start("meta"), start("p"), start("b"), text("x"), start("p"), text("y"), end("p"), start("br"), end("b")}
	want := Of(list)
	for _, table := range tables() {
		filled := maps.Clone(table.deeds)
		clear(table.deeds)
		defer maps.Copy(table.deeds, filled)
	}
	if got := Of(list); !reflect.DeepEqual(got, want) {
		t.Errorf("P4: with empty tables Of gives %+v, want %+v", got, want)
	}
	if got := ByTable(list); reflect.DeepEqual(got, want) {
		t.Errorf("with empty tables ByTable gives the same")
	}
}
