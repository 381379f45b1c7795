package folio_test

import (
	"math/big"
	"math/rand/v2"
	"reflect"
	"regexp"
	"strings"
	"testing"

	"folio/api"
	"folio/folio"
)

// What follows reads tokens by patterns of whole things, and not letter by letter.
var (
	commentPattern  = regexp.MustCompile(`(?s)^<!--(?:-?!?>|(.*?)(?:--!?>|\z))`)
	doctypePattern  = regexp.MustCompile(`(?s)^<!(?i:doctype)[\t\n\f\r ]*([^\t\n\f\r >]*)[^>]*>?`)
	oddPattern      = regexp.MustCompile(`(?s)^<(?:!|/|(\?))([^>]*)>?`)
	tagPattern      = regexp.MustCompile(`^<(/?)([a-zA-Z][^\t\n\f\r />]*)`)
	skipPattern     = regexp.MustCompile(`^[\t\n\f\r /]*`)
	attrPattern     = regexp.MustCompile(`(?s)^(.[^\t\n\f\r />=]*)(?:[\t\n\f\r ]*(=)[\t\n\f\r ]*(?:"([^"]*)(?:"|\z)|'([^']*)(?:'|\z)|([^\t\n\f\r >"'][^\t\n\f\r >]*)?))?`)
	numberPattern   = regexp.MustCompile(`&#(?:([0-9]+)|[xX]([0-9a-fA-F]+));?`)
	namePattern     = regexp.MustCompile(`&(?:(amp|lt|gt|quot|apos|nbsp|copy|reg|notin|not|eacute|euml|euro|ndash|mdash|hellip|larr|rarr);|(amp|lt|gt|quot|nbsp|copy|reg|not|eacute|euml)([a-zA-Z0-9=]?))`)
	anyReference    = regexp.MustCompile(numberPattern.String() + "|" + namePattern.String())
	beginnerPattern = regexp.MustCompile(`<(?:[a-zA-Z!?]|/[^>])`)
)

func lowered(name string) string {
	var small strings.Builder
	for _, letter := range name {
		if strings.ContainsRune("ABCDEFGHIJKLMNOPQRSTUVWXYZ", letter) {
			letter += 32
		}
		small.WriteRune(letter)
	}
	return small.String()
}

func referenceReplaced(words string, inValue bool) string {
	return anyReference.ReplaceAllStringFunc(words, func(found string) string {
		if m := numberPattern.FindStringSubmatch(found); m != nil {
			if m[1] != "" {
				return numberedLetter(m[1], 10)
			}
			return numberedLetter(m[2], 16)
		}
		m := namePattern.FindStringSubmatch(found)
		switch {
		case m[1] != "":
			return namedLetter(m[1])
		case inValue && m[3] != "":
			return found
		}
		return namedLetter(m[2]) + m[3]
	})
}

func namedLetter(name string) string {
	for _, n := range documentNames {
		if strings.TrimSuffix(n.name, "*") == name {
			return string(n.letter)
		}
	}
	return "no such name"
}

func numberedLetter(digits string, base int) string {
	number, _ := new(big.Int).SetString(digits, base)
	if !number.IsInt64() || number.Int64() > 1114111 || number.Int64() == 0 {
		return no
	}
	if letter, there := documentNumbers[int(number.Int64())]; there {
		return string(letter)
	}
	return string(rune(number.Int64()))
}

// referenceTokens tells tokens as the document says it, by patterns.
func referenceTokens(page string) []api.Token {
	page = string([]rune(page))
	var tokens []api.Token
	words := ""
	tell := func(token api.Token) {
		if words != "" {
			tokens = append(tokens, text(words))
		}
		words = ""
		if token.Kind != 0 {
			tokens = append(tokens, token)
		}
	}
	for page != "" {
		var token api.Token
		size := 0
		if m := commentPattern.FindStringSubmatch(page); m != nil {
			token, size = comment(m[1]), len(m[0])
		} else if m := doctypePattern.FindStringSubmatch(page); m != nil {
			token, size = doctype(lowered(m[1])), len(m[0])
		} else if tagPattern.MatchString(page) {
			if token, size = referenceTag(page); size == 0 {
				break
			}
		} else if strings.HasPrefix(page, "</>") {
			page = page[3:]
			continue
		} else if m := oddPattern.FindStringSubmatch(page); m != nil && page != "</" {
			token, size = comment(m[1]+m[2]), len(m[0])
		} else {
			size = wordsLength(page)
			words += referenceReplaced(page[:size], false)
			page = page[size:]
			continue
		}
		tell(token)
		page = page[size:]
		if token.Kind == api.Start && strings.Contains(" script style title textarea ", " "+token.Name+" ") {
			size := innerLength(page, token.Name)
			words = page[:size]
			if token.Name[0] == 't' {
				words = referenceReplaced(words, false)
			}
			page = page[size:]
		}
	}
	tell(api.Token{})
	return tokens
}

// wordsLength is that of the text in front, up to the next '<' that begins something, or that is gone.
func wordsLength(page string) int {
	at := beginnerPattern.FindStringIndex(page)
	gone := strings.Index(page, "</>")
	switch {
	case at == nil && gone < 0:
		return len(page)
	case at == nil || gone >= 0 && gone < at[0]:
		return gone
	}
	return at[0]
}

func innerLength(page, name string) int {
	end := regexp.MustCompile(`</(?i:` + regexp.QuoteMeta(name[:1]) + `)[a-zA-Z]{` + string(rune('0'+len(name)-1)) + `}[\t\n\f\r />]`)
	for from := 0; ; {
		at := end.FindStringIndex(page[from:])
		if at == nil {
			return len(page)
		}
		if lowered(page[from+at[0]+2:from+at[0]+2+len(name)]) == name {
			return from + at[0]
		}
		from += at[0] + 1
	}
}

// referenceTag tells a tag and its length, 0 if it is none.
func referenceTag(page string) (api.Token, int) {
	m := tagPattern.FindStringSubmatch(page)
	token := start(lowered(m[2]))
	rest := page[len(m[0]):]
	for {
		skipped := skipPattern.FindString(rest)
		rest = rest[len(skipped):]
		if rest == "" {
			return api.Token{}, 0
		}
		if rest[0] == '>' {
			token.Closed = strings.HasSuffix(skipped, "/")
			break
		}
		a := attrPattern.FindStringSubmatch(rest)
		rest = rest[len(a[0]):]
		attr := api.Attr{Name: lowered(a[1]), Value: referenceReplaced(a[3]+a[4]+a[5], true)}
		fresh := len(token.Attrs) < api.MaxAttrs
		for _, other := range token.Attrs {
			fresh = fresh && other.Name != attr.Name
		}
		if fresh {
			token.Attrs = append(token.Attrs, attr)
		}
	}
	if m[1] != "" {
		token = end(token.Name)
	}
	return token, len(page) - len(rest) + 1
}

func checkReferenceTokens(t *testing.T, page string) {
	t.Helper()
	if got, errno := folio.Tokens(page); !reflect.DeepEqual(got, referenceTokens(page)) || errno != api.OK {
		t.Fatalf("P3: Tokens(%q) = %+v, %d, want %+v", page, got, errno, referenceTokens(page))
	}
}

// rows hands every row of so many of the parts, behind a front, to check.
func rows(parts []string, length int, front string, check func(string)) {
	if length == 0 {
		check(front)
		return
	}
	for _, part := range parts {
		rows(parts, length-1, front+part, check)
	}
}

func TestTokensRowsOfParts(t *testing.T) {
	for _, c := range []struct {
		front  string
		length int
		parts  []string
	}{
		{"", 4, []string{"<", "/", ">", "!", "-", "?", "a", " ", "doctype", "&amp", ";"}},
		{"<!--", 5, []string{"-", "!", ">", "x"}},
		{"<a", 5, []string{" ", "/", ">", "=", "'", "\"", "b"}},
		{"<a b=", 4, []string{" ", "/", ">", "=", "'", "&lt", ";", "C"}},
		{"<title>&am", 4, []string{"</", "title", ">", "p", ";", " ", "<"}},
		{"x<script>", 4, []string{"</", "SCRIPT", "/", ">", "script", "&lt;", " "}},
		{"x", 4, []string{"&", "#", "x", "1", ";", "not", "in", "=", "</>"}},
	} {
		rows(c.parts, c.length, c.front, func(page string) {
			checkReferenceTokens(t, page)
			checkReferenceTokens(t, page+"></a>y")
		})
	}
}

func TestTokensMixes(t *testing.T) {
	parts := []string{
		"<", "</", ">", "/>", "</>", "<!", "<!--", "-->", "--!>", "-", "<?", "<!doctype", " ", "\n", "\r", "\x00", "=", "'", "\"", "/", "a", "B", "é", "\xff", "\xe2\x82",
		"<p>", "</p>", "<a b=c d='e'>", "<b/>", "<script>", "</script>", "<STYLE ", "</style ", "<title>", "</Title/", "<textarea>", "</textarea>",
		"&", "&amp", "&lt;", "&notin", "&not", ";", "&#", "&#x", "65", "1114112", "128", "d800", "x",
	}
	chance := rand.New(rand.NewPCG(1, 2))
	for range 20000 {
		var page strings.Builder
		for range 1 + chance.IntN(30) {
			page.WriteString(parts[chance.IntN(len(parts))])
		}
		checkReferenceTokens(t, page.String())
	}
}

func FuzzTokens(f *testing.F) {
	for _, page := range []string{
		manyTokens, "<P Class=a title='x &amp; y'>a<b/>&notit; &#233;</p >", "a</>&am</>p;</", "<!-->a<!--->b<!--a--!>c<!--", "<!doctypeX y>",
		"<script>a</scrip></SCRIPT \n>b", "<title>&lt;</title/><textarea>", "<a b=c/ d='&ltx' e=\"&#x41;\" f= >", "\xff\xe2\x82\r\x00&#99999999999;",
	} {
		f.Add(page)
	}
	f.Fuzz(func(t *testing.T, page string) {
		if len(page) <= api.MaxBytes {
			checkReferenceTokens(t, page)
		} else if got, errno := folio.Tokens(page); got != nil || errno != api.ErrLarge {
			t.Fatalf("P3: %d bytes: %d tokens, %d", len(page), len(got), errno)
		}
	})
}
