package tokens

import (
	"folio/api"
	"folio/letters"
)

func (s *scanner) takeComment() {
	from := s.at + len("<!--")
	// The end may begin with a '-' of the beginning.
	s.at += len("<!")
	for s.ahead(0) != letters.None && s.commentEnd() == "" {
		s.at++
	}
	text := s.row.Text(from, s.at)
	s.at += len(s.commentEnd())
	s.add(api.Token{Kind: api.Comment, Text: text})
}

// commentEnd tells which end of a comment stands here, if one does.
func (s *scanner) commentEnd() string {
	for _, end := range [...]string{"-->", "--!>"} {
		if s.has(0, end) {
			return end
		}
	}
	return ""
}

// takeOddComment takes what is a comment only because it is nothing better; beginning is the length of what is no part of its text.
func (s *scanner) takeOddComment(beginning int) {
	s.at += beginning
	s.add(api.Token{Kind: api.Comment, Text: s.upToBehind(">")})
}

func (s *scanner) takeDoctype() {
	s.at += len("<!doctype")
	s.skipSpace()
	name := low(s.upTo(letters.Space + ">"))
	s.upToBehind(">")
	s.add(api.Token{Kind: api.Doctype, Name: name})
}
