// Package reading tells what stands on a page: its title, its text, its links.
package reading

import (
	"strings"

	"folio/letters"
)

// What is to stand ahead of the next letter.
const (
	noGap rune = 0
	space rune = ' '
	line  rune = '\n'
)

// flow puts words together, with one letter for each row of spaces and breaks between others.
type flow struct {
	text strings.Builder
	gap  rune
}

func (f *flow) addWords(text string) {
	for _, letter := range text {
		if strings.ContainsRune(letters.Space, letter) {
			f.addSpace()
		} else {
			f.addLetter(letter)
		}
	}
}

// addSpace leaves a break as it is.
func (f *flow) addSpace() {
	if f.gap == noGap {
		f.gap = space
	}
}

func (f *flow) addBreak() { f.gap = line }

func (f *flow) addLetter(letter rune) {
	if f.gap != noGap && f.text.Len() > 0 {
		f.text.WriteRune(f.gap)
	}
	f.gap = noGap
	f.text.WriteRune(letter)
}

// String leaves out the gap at the end, which no letter follows.
func (f *flow) String() string { return f.text.String() }
