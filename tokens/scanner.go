// Package tokens makes tokens of a page's letters.
package tokens

import (
	"strings"

	"folio/api"
	"folio/letters"
	"folio/names"
)

// scanner goes through the letters once; it never goes back.
type scanner struct {
	row  *letters.Row
	at   int             // the place of the next letter
	text strings.Builder // what the text that goes on has so far, its references replaced
	list []api.Token
}

// Of tells the tokens of all letters of a row.
func Of(row *letters.Row) []api.Token {
	s := scanner{row: row}
	for s.ahead(0) != letters.None {
		if take := s.begun(); take != nil {
			take()
		} else {
			s.takeWords()
		}
	}
	s.endText()
	return s.list
}

// begun tells how to take what begins here, or nil, if that is a text.
func (s *scanner) begun() func() {
	if s.ahead(0) != '<' {
		return nil
	}
	switch next := s.ahead(1); {
	case letters.IsLetter(next):
		return s.takeStart
	case next == '/':
		return s.begunBySlash()
	case s.has(1, "!--"):
		return s.takeComment
	case s.has(1, "!doctype"):
		return s.takeDoctype
	case next == '!':
		return func() { s.takeOddComment(len("<!")) }
	case next == '?':
		return func() { s.takeOddComment(len("<")) }
	}
	return nil
}

func (s *scanner) begunBySlash() func() {
	switch next := s.ahead(2); {
	case letters.IsLetter(next):
		return s.takeEnd
	case next == '>':
		return func() { s.at += len("</>") }
	case next == letters.None:
		return nil
	}
	return func() { s.takeOddComment(len("</")) }
}

// takeWords takes a text up to what else begins. The text may still go on behind that.
func (s *scanner) takeWords() {
	from := s.at
	for s.ahead(0) != letters.None && s.begun() == nil {
		s.at++
	}
	s.text.WriteString(withReferences(s.row.Text(from, s.at), inText))
}

// takeInner takes all behind a Start whose name says that no tag but its own End counts there.
func (s *scanner) takeInner(name string) {
	from := s.at
	for s.ahead(0) != letters.None && !s.endsInner(name) {
		s.at++
	}
	inner := s.row.Text(from, s.at)
	if isPlain(name) {
		inner = withReferences(inner, inText)
	}
	s.text.WriteString(inner)
}

func (s *scanner) endsInner(name string) bool {
	end := "</" + name
	return s.has(0, end) && isOneOf(s.ahead(len(end)), letters.Space+"/>")
}

func isRaw(name string) bool { return names.Is(name, "script", "style") }

func isPlain(name string) bool { return names.Is(name, "title", "textarea") }

// add tells a token, and ahead of it the text that it ends.
func (s *scanner) add(token api.Token) {
	s.endText()
	s.list = append(s.list, token)
}

func (s *scanner) endText() {
	if s.text.Len() > 0 {
		s.list = append(s.list, api.Token{Kind: api.Text, Text: s.text.String()})
		s.text.Reset()
	}
}
