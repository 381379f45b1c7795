package letters

import (
	"runtime"
	"strings"
	"testing"
	"time"
)

const mixed = "\xef\xbb\xbf\xef\xbb\xbfa\r\n\r\r\n\x00\xc3\xa9\xe2\x82\xac\xe2\x82\xf0\x9f\x98\x80\xf0\x9f\x98\xed\xa0\x80\xff\r"
const mixedLetters = "\uFEFFa\n\n\n\uFFFDé€\uFFFD😀\uFFFD\uFFFD\uFFFD\uFFFD\uFFFD\n"

func all(row *Row) string {
	var letters []rune
	for row.At(len(letters)) != None {
		letters = append(letters, row.At(len(letters)))
	}
	return string(letters)
}

func of(pieces ...string) string {
	var text string
	OfBytes(pieces, func(row *Row) { text = all(row) })
	return text
}

func TestOfBytesWithoutPieces(t *testing.T) {
	for _, pieces := range [][]string{nil, {""}, {"", "", ""}} {
		if got := of(pieces...); got != "" {
			t.Errorf("OfBytes(%q) gave %q", pieces, got)
		}
	}
}

func TestOfBytesCutAnywhere(t *testing.T) {
	for i := range len(mixed) + 1 {
		for j := i; j <= len(mixed); j++ {
			if got := of(mixed[:i], mixed[i:j], mixed[j:]); got != mixedLetters {
				t.Errorf("cut at %d and %d: %q, want %q", i, j, got, mixedLetters)
			}
		}
	}
}

func TestOfBytesByteByItself(t *testing.T) {
	var pieces []string
	for i := range len(mixed) {
		pieces = append(pieces, "", mixed[i:i+1])
	}
	if got := of(pieces...); got != mixedLetters {
		t.Errorf("%q, want %q", got, mixedLetters)
	}
}

func TestOfBytesKeepsNothing(t *testing.T) {
	of("\xe2\x82")
	of("a\r")
	if got := of("\xef\xbb\xbf\n\xac"); got != "\n\uFFFD" {
		t.Errorf("behind other pages: %q", got)
	}
}

func TestOfTextTakesLettersAsTheyAre(t *testing.T) {
	const text = "\xef\xbb\xbfa\r\n\r\x00é€😀\xe2\x82b\xf0\x9f\x98\xed\xa0\x80\xff"
	const want = "\uFEFFa\r\n\r\x00é€😀\uFFFD\uFFFDb\uFFFD\uFFFD\uFFFD\uFFFD\uFFFD\uFFFD\uFFFD"
	OfText(text, func(row *Row) {
		if got := all(row); got != want {
			t.Errorf("%q, want %q", got, want)
		}
	})
}

func TestRowIsAskedInAnyOrder(t *testing.T) {
	OfText("aéb", func(row *Row) {
		for _, c := range []struct {
			place int
			want  rune
		}{{1, 'é'}, {0, 'a'}, {2, 'b'}, {3, None}, {0, 'a'}, {100, None}, {2, 'b'}} {
			if got := row.At(c.place); got != c.want {
				t.Errorf("At(%d) = %q, want %q", c.place, got, c.want)
			}
		}
	})
}

func TestRowText(t *testing.T) {
	for _, c := range []struct {
		from, to int
		want     string
	}{{0, 3, "aéb"}, {0, 100, "aéb"}, {1, 2, "é"}, {1, 1, ""}, {2, 1, ""}, {3, 4, ""}, {50, 60, ""}} {
		OfText("aéb", func(row *Row) {
			if got := row.Text(c.from, c.to); got != c.want {
				t.Errorf("Text(%d, %d) = %q, want %q", c.from, c.to, got, c.want)
			}
		})
	}
}

func TestReaderEndsThoughNobodyAsks(t *testing.T) {
	before := runtime.NumGoroutine()
	for range 100 {
		OfText("abc", func(row *Row) {})
		OfBytes([]string{"abc", "d"}, func(row *Row) { row.At(1) })
	}
	// A goroutine that has done its last work may be counted for a moment yet.
	for range 100 {
		if runtime.NumGoroutine() <= before {
			return
		}
		time.Sleep(time.Millisecond)
	}
	t.Errorf("%d goroutines, %d ahead of the calls", runtime.NumGoroutine(), before)
}

func TestSorts(t *testing.T) {
	const small, capital, digits = "abcdefghijklmnopqrstuvwxyz", "ABCDEFGHIJKLMNOPQRSTUVWXYZ", "0123456789"
	for letter := None; letter < 0x3000; letter++ {
		if got, want := IsLetter(letter), strings.ContainsRune(small+capital, letter); got != want {
			t.Errorf("IsLetter(%U) = %t", letter, got)
		}
		if got, want := IsDigit(letter), strings.ContainsRune(digits, letter); got != want {
			t.Errorf("IsDigit(%U) = %t", letter, got)
		}
		want := letter
		if i := strings.IndexRune(capital, letter); i >= 0 {
			want = rune(small[i])
		}
		if got := Low(letter); got != want {
			t.Errorf("Low(%U) = %U, want %U", letter, got, want)
		}
	}
	if Space != "\x09\x0a\x0c\x0d\x20" {
		t.Errorf("Space = %q", Space)
	}
}
