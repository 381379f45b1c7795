// Package addresses tells where a reference leads that stands on a page.
package addresses

import (
	"strings"

	"folio/letters"
)

// part is what may be there, even if it is empty, or not there.
type part struct {
	text  string
	there bool
}

type address struct {
	scheme, host part
	path         string
	query, mark  part
}

// split begins with the mark and the query, since no part ahead of these has their signs.
func split(text string) address {
	var a address
	text, a.mark = cutFrom(text, "#")
	text, a.query = cutFrom(text, "?")
	a.scheme, text = cutScheme(text)
	a.host, a.path = cutHost(text)
	return a
}

func cutFrom(text, sign string) (ahead string, behind part) {
	ahead, rest, there := strings.Cut(text, sign)
	return ahead, part{rest, there}
}

func cutScheme(text string) (scheme part, behind string) {
	front, behind, there := strings.Cut(text, ":")
	if !there || !isScheme(front) {
		return part{}, text
	}
	return part{front, true}, behind
}

func isScheme(text string) bool {
	for i, letter := range text {
		more := letters.IsDigit(letter) || strings.ContainsRune("+-.", letter)
		if !letters.IsLetter(letter) && (i == 0 || !more) {
			return false
		}
	}
	return text != ""
}

func cutHost(text string) (host part, behind string) {
	text, there := strings.CutPrefix(text, "//")
	if !there {
		return part{}, text
	}
	end := strings.Index(text, "/")
	if end < 0 {
		end = len(text)
	}
	return part{text[:end], true}, text[end:]
}

// text puts the parts together, always in new memory.
func (a address) text() string {
	var out strings.Builder
	write := func(p part, ahead, behind string) {
		if p.there {
			out.WriteString(ahead + p.text + behind)
		}
	}
	write(a.scheme, "", ":")
	write(a.host, "//", "")
	out.WriteString(a.path)
	write(a.query, "?", "")
	write(a.mark, "#", "")
	return out.String()
}
