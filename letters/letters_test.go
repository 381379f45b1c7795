package letters

import "testing"

const mixed = "\xef\xbb\xbf\xef\xbb\xbfa\r\n\r\r\n\x00\xc3\xa9\xe2\x82\xac\xe2\x82\xf0\x9f\x98\x80\xf0\x9f\x98\xed\xa0\x80\xff\r"
const mixedLetters = "\uFEFFa\n\n\n\uFFFDé€\uFFFD😀\uFFFD\uFFFD\uFFFD\uFFFD\uFFFD\n"

func of(pieces ...string) string {
	var all []rune
	Each(pieces, func(letter rune) { all = append(all, letter) })
	return string(all)
}

func TestEachWithoutPieces(t *testing.T) {
	for _, pieces := range [][]string{nil, {""}, {"", "", ""}} {
		if got := of(pieces...); got != "" {
			t.Errorf("Each(%q) gave %q", pieces, got)
		}
	}
}

func TestEachCutAnywhere(t *testing.T) {
	for i := range len(mixed) + 1 {
		for j := i; j <= len(mixed); j++ {
			if got := of(mixed[:i], mixed[i:j], mixed[j:]); got != mixedLetters {
				t.Errorf("cut at %d and %d: %q, want %q", i, j, got, mixedLetters)
			}
		}
	}
}

func TestEachByteByItself(t *testing.T) {
	var pieces []string
	for i := range len(mixed) {
		pieces = append(pieces, "", mixed[i:i+1])
	}
	if got := of(pieces...); got != mixedLetters {
		t.Errorf("%q, want %q", got, mixedLetters)
	}
}

func TestEachKeepsNothing(t *testing.T) {
	of("\xe2\x82")
	of("a\r")
	if got := of("\xef\xbb\xbf\n\xac"); got != "\n\uFFFD" {
		t.Errorf("behind other pages: %q", got)
	}
}
