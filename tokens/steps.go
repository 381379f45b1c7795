package tokens

import (
	"strings"

	"folio/letters"
)

// ahead tells the letter that stands so many places ahead of the next one.
func (s *scanner) ahead(places int) rune { return s.row.At(s.at + places) }

// has is true if a text of small letters stands there, whether in small or in capital ones.
func (s *scanner) has(places int, small string) bool {
	for i, letter := range small {
		if letters.Low(s.ahead(places+i)) != letter {
			return false
		}
	}
	return true
}

// upTo takes all ahead of the next one of the stops, or of the end.
func (s *scanner) upTo(stops string) string {
	from := s.at
	for s.ahead(0) != letters.None && !isOneOf(s.ahead(0), stops) {
		s.at++
	}
	return s.row.Text(from, s.at)
}

// upToBehind takes the stop too, which is not told. Where all ends ahead of it, the place behind it is as good an end.
func (s *scanner) upToBehind(stop string) string {
	text := s.upTo(stop)
	s.at += len(stop)
	return text
}

func (s *scanner) skipSpace() {
	for isOneOf(s.ahead(0), letters.Space) {
		s.at++
	}
}

func isOneOf(letter rune, some string) bool { return strings.ContainsRune(some, letter) }

func low(name string) string { return strings.Map(letters.Low, name) }
