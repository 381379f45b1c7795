package letters

// Space is every letter that is one.
const Space = "\t\n\f\r "

// IsLetter is true of small and capital letters alone: a to z, A to Z.
func IsLetter(letter rune) bool {
	letter = Low(letter)
	return 'a' <= letter && letter <= 'z'
}

// IsDigit is true of 0 to 9.
func IsDigit(letter rune) bool { return '0' <= letter && letter <= '9' }

// Low makes A to Z small.
func Low(letter rune) rune {
	if 'A' <= letter && letter <= 'Z' {
		return letter - 'A' + 'a'
	}
	return letter
}
