package lexer

import "unicode/utf8"

const (
	replacement = 0xFFFD
	lastScalar  = 0x10FFFF
	graveAccent = 0x60
)

func isBlank(c int) bool {
	return c == 0x09 || c == 0x0A || c == 0x0C || c == 0x20
}

func isLetter(c int) bool {
	return c >= 'a' && c <= 'z' || c >= 'A' && c <= 'Z'
}

func isLetterOrDigit(c int) bool {
	return isLetter(c) || c >= '0' && c <= '9'
}

// endsName: of tags.
func endsName(c int) bool {
	return isBlank(c) || c == '/' || c == '>'
}

// digitOf: what c is worth as a digit to the base 16; 16, where it is none.
func digitOf(c int) int {
	switch {
	case c >= '0' && c <= '9':
		return c - '0'
	case c >= 'a' && c <= 'f':
		return c - 'a' + 10
	case c >= 'A' && c <= 'F':
		return c - 'A' + 10
	}
	return 16
}

// small leaves all but A to Z alone, unlike the library's.
func small(c int) int {
	if c >= 'A' && c <= 'Z' {
		return c + 'a' - 'A'
	}
	return c
}

func smallText(s string) string {
	out := []byte(s)
	for i := range out {
		out[i] = byte(small(int(out[i])))
	}
	return string(out)
}

// appendScalar looks at the bounds first, as a rune would wrap round what is beyond them.
func appendScalar(b []byte, c int) []byte {
	if c < 0 || c > lastScalar {
		c = replacement
	}
	return utf8.AppendRune(b, rune(c))
}
