package letters

import "strings"

// None is told of a place that all letters have ended ahead of.
const None rune = -1

// Row is a page's letters, as far as they have come.
type Row struct {
	letters <-chan rune
	end     <-chan struct{}
	come    []rune
	ended   bool
}

// At tells the letter of a place, for which it waits, or None.
func (r *Row) At(place int) rune {
	for place >= len(r.come) && !r.ended {
		r.receive()
	}
	if place >= len(r.come) {
		return None
	}
	return r.come[place]
}

func (r *Row) receive() {
	select {
	case letter := <-r.letters:
		r.come = append(r.come, letter)
	case <-r.end:
		r.ended = true
	}
}

// drain takes what nobody asked for: the reader can't end ahead of that.
func (r *Row) drain() {
	for !r.ended {
		r.receive()
	}
}

// Text tells the letters from a place on, up to another, as UTF-8.
func (r *Row) Text(from, to int) string {
	var text strings.Builder
	for place := from; place < to && r.At(place) != None; place++ {
		text.WriteRune(r.At(place))
	}
	return text.String()
}
