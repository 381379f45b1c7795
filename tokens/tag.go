package tokens

import (
	"slices"

	"folio/api"
	"folio/letters"
)

// tag is what a Start and an End have alike.
type tag struct {
	name   string
	attrs  []api.Attr
	closed bool
}

func (s *scanner) takeStart() {
	s.at += len("<")
	t, whole := s.takeTag()
	if !whole {
		return
	}
	s.add(api.Token{Kind: api.Start, Name: t.name, Attrs: t.attrs, Closed: t.closed})
	if isRaw(t.name) || isPlain(t.name) {
		s.takeInner(t.name)
	}
}

func (s *scanner) takeEnd() {
	s.at += len("</")
	if t, whole := s.takeTag(); whole {
		s.add(api.Token{Kind: api.End, Name: t.name})
	}
}

// takeTag takes a tag from its name on. It is whole unless all ends ahead of its '>'.
func (s *scanner) takeTag() (t tag, whole bool) {
	t.name = low(s.upTo(letters.Space + "/>"))
	for {
		t.closed = s.skipToAttr()
		switch s.ahead(0) {
		case letters.None:
			return tag{}, false
		case '>':
			s.at += len(">")
			return t, true
		}
		t.give(s.takeAttr())
	}
}

// skipToAttr tells if the last letter that it skips is a '/'.
func (s *scanner) skipToAttr() (slash bool) {
	for isOneOf(s.ahead(0), letters.Space+"/") {
		slash = s.ahead(0) == '/'
		s.at++
	}
	return slash
}

func (t *tag) give(attr api.Attr) {
	same := func(other api.Attr) bool { return other.Name == attr.Name }
	if len(t.attrs) < api.MaxAttrs && !slices.ContainsFunc(t.attrs, same) {
		t.attrs = append(t.attrs, attr)
	}
}

func (s *scanner) takeAttr() api.Attr {
	from := s.at
	// The first letter belongs to the name even if it is a '='.
	s.at++
	s.upTo(letters.Space + "/>=")
	attr := api.Attr{Name: low(s.row.Text(from, s.at))}
	s.skipSpace()
	if s.ahead(0) == '=' {
		s.at += len("=")
		s.skipSpace()
		attr.Value = withReferences(s.takeValue(), inValue)
	}
	return attr
}

func (s *scanner) takeValue() string {
	switch quote := s.ahead(0); quote {
	case '"', '\'':
		s.at++
		return s.upToBehind(string(quote))
	}
	// A '>' here ends an empty value, and is left for the tag.
	return s.upTo(letters.Space + ">")
}
