package letters

// byteMark is the letter of the bytes 239 187 191, and of no others.
const byteMark = '\uFEFF'

// cleaner passes on what is left of the letters without the mark in front of all, 13, and 0.
type cleaner struct {
	send     func(rune)
	begun    bool // a letter has come
	returned bool // the last letter was a 13
}

func (c *cleaner) put(letter rune) {
	first, behindReturn := !c.begun, c.returned
	c.begun, c.returned = true, letter == '\r'
	switch {
	case first && letter == byteMark:
	case behindReturn && letter == '\n':
		// The 13 went on as a 10 when it came: what follows it may be far off yet.
	case letter == '\r':
		c.send('\n')
	case letter == 0:
		c.send(Substitute)
	default:
		c.send(letter)
	}
}
