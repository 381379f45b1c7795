// Package letters makes letters of a page's bytes, in whatever pieces these come.
package letters

// Substitute stands for bytes that are no letter, and for the letter 0.
const Substitute = '\uFFFD'

// decoder takes bytes one by one, so that a letter may lie across a cut.
type decoder struct {
	put       func(rune)
	letter    rune // what the lead and its followers have given so far
	missing   int  // followers that the lead still needs
	low, high byte // bounds of the next follower
}

func (d *decoder) take(b byte) {
	if d.missing > 0 {
		if d.low <= b && b <= d.high {
			d.follow(b)
			return
		}
		d.end()
	}
	d.begin(b)
}

func (d *decoder) begin(b byte) {
	switch {
	case b < 128:
		d.put(rune(b))
	case b < 194 || b > 244:
		d.put(Substitute)
	case b < 224:
		d.lead(b, 1, 0x1F)
	case b < 240:
		d.lead(b, 2, 0x0F)
	default:
		d.lead(b, 3, 0x07)
	}
}

// lead keeps of the byte only what belongs to the letter: mask.
func (d *decoder) lead(b byte, missing int, mask byte) {
	d.letter = rune(b & mask)
	d.missing = missing
	d.low, d.high = firstBounds(b)
}

// firstBounds shuts out longer forms than need be, halves of pairs, and numbers above the last letter's.
func firstBounds(lead byte) (low, high byte) {
	switch lead {
	case 224:
		return 160, 191
	case 237:
		return 128, 159
	case 240:
		return 144, 191
	case 244:
		return 128, 143
	}
	return 128, 191
}

func (d *decoder) follow(b byte) {
	d.letter = d.letter<<6 | rune(b&0x3F)
	d.missing--
	d.low, d.high = 128, 191
	if d.missing == 0 {
		d.put(d.letter)
	}
}

// end gives one substitute for a lead whose followers did not all come.
func (d *decoder) end() {
	if d.missing > 0 {
		d.missing = 0
		d.put(Substitute)
	}
}
