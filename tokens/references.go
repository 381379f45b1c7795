package tokens

import (
	"strings"
	"unicode/utf8"

	"folio/letters"
)

// spot says where a reference stands, on which it hangs whether a name counts without a ";".
type spot int

const (
	inText spot = iota
	inValue
)

// entity is a name of the document's table.
type entity struct {
	name   string
	letter rune
	bare   bool // counts without a ';'
}

var entities = [...]entity{
	{"amp", 38, true},
	{"lt", 60, true},
	{"gt", 62, true},
	{"quot", 34, true},
	{"apos", 39, false},
	{"nbsp", 160, true},
	{"copy", 169, true},
	{"reg", 174, true},
	{"not", 172, true},
	{"notin", 8713, false},
	{"eacute", 233, true},
	{"euml", 235, true},
	{"euro", 8364, false},
	{"ndash", 8211, false},
	{"mdash", 8212, false},
	{"hellip", 8230, false},
	{"larr", 8592, false},
	{"rarr", 8594, false},
}

// withReferences tells a text with the letters that its references stand for.
func withReferences(text string, where spot) string {
	var out strings.Builder
	for {
		words, behind, found := strings.Cut(text, "&")
		out.WriteString(words)
		if !found {
			return out.String()
		}
		letter, size := reference(behind, where)
		out.WriteRune(letter)
		text = behind[size:]
	}
}

// reference tells the letter that '&' and the first size bytes behind it stand for; if none does, that is '&' itself.
func reference(behind string, where spot) (letter rune, size int) {
	if strings.HasPrefix(behind, "#") {
		letter, size = byNumber(behind[len("#"):])
		if size > 0 {
			return letter, len("#") + size
		}
		return '&', 0
	}
	return byName(behind, where)
}

func byNumber(text string) (letter rune, size int) {
	base, front := 10, 0
	if strings.HasPrefix(text, "x") || strings.HasPrefix(text, "X") {
		base, front = 16, len("x")
	}
	number, size := numberOf(text[front:], base)
	if size == 0 {
		return 0, 0
	}
	size += front
	if strings.HasPrefix(text[size:], ";") {
		size += len(";")
	}
	return letterOf(number), size
}

// numberOf reads all digits that there are, and tells how many. No number is told as more than one above every letter's.
func numberOf(text string, base int) (number, digits int) {
	for _, letter := range text {
		digit := digitOf(letter)
		if digit >= base {
			break
		}
		number = min(number*base+digit, utf8.MaxRune+1)
		digits++
	}
	return number, digits
}

// digitOf tells what a digit of base 16 counts, and of any other letter more than that.
func digitOf(letter rune) int {
	small := letters.Low(letter)
	switch {
	case letters.IsDigit(letter):
		return int(letter - '0')
	case 'a' <= small && small <= 'f':
		return int(small-'a') + 10
	}
	return 16
}

func letterOf(number int) rune {
	letter := rune(number)
	switch {
	case number == 0 || !utf8.ValidRune(letter):
		return letters.Substitute
	case 128 <= number && number <= 159:
		return oldLetter(letter)
	}
	return letter
}

// oldLetter tells what the numbers 128 to 159 were used for ahead of their time.
func oldLetter(number rune) rune {
	switch number {
	case 128:
		return 8364
	case 130:
		return 8218
	case 133:
		return 8230
	case 145:
		return 8216
	case 146:
		return 8217
	case 147:
		return 8220
	case 148:
		return 8221
	case 149:
		return 8226
	case 150:
		return 8211
	case 151:
		return 8212
	case 153:
		return 8482
	}
	return number
}

func byName(text string, where spot) (letter rune, size int) {
	letter = '&'
	for _, e := range entities {
		behind, fits := strings.CutPrefix(text, e.name)
		switch {
		case !fits:
		case strings.HasPrefix(behind, ";"):
			return e.letter, len(e.name) + len(";")
		case e.bare && len(e.name) > size && countsBare(behind, where):
			letter, size = e.letter, len(e.name)
		}
	}
	return letter, size
}

// countsBare keeps addresses whole: in these names of values often look like references.
func countsBare(behind string, where spot) bool {
	if where == inText || behind == "" {
		return true
	}
	next := rune(behind[0])
	return !letters.IsLetter(next) && !letters.IsDigit(next) && next != '='
}
