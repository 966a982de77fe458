package charref

import "beadle/api"

const (
	replacement = 0xFFFD
	lastScalar  = 0x10FFFF
)

// windowsHigh: what the numbers from 80 to 9F mean to those who take them for bytes of windows-1252. It is layer 2's table, written anew since this layer leans on api alone.
var windowsHigh = [32]int{
	0x20AC, 0x81, 0x201A, 0x192, 0x201E, 0x2026, 0x2020, 0x2021,
	0x2C6, 0x2030, 0x160, 0x2039, 0x152, 0x8D, 0x17D, 0x8F,
	0x90, 0x2018, 0x2019, 0x201C, 0x201D, 0x2022, 0x2013, 0x2014,
	0x2DC, 0x2122, 0x161, 0x203A, 0x153, 0x9D, 0x17E, 0x178,
}

// Number: the scalar of a number, and what is wrong with it.
func Number(n int) (int, api.Code) {
	switch {
	case n == 0:
		return replacement, api.NullCharacterReference
	case n < 0 || n > lastScalar:
		return replacement, api.CharacterReferenceOutsideUnicodeRange
	case n >= 0xD800 && n <= 0xDFFF:
		return replacement, api.SurrogateCharacterReference
	case isNoncharacter(n):
		return n, api.NoncharacterCharacterReference
	case n >= 0x80 && n <= 0x9F:
		return windowsHigh[n-0x80], api.ControlCharacterReference
	case isControl(n):
		return n, api.ControlCharacterReference
	}
	return n, 0
}

func isNoncharacter(n int) bool {
	return n >= 0xFDD0 && n <= 0xFDEF || n&0xFFFE == 0xFFFE
}

// isControl: of numbers below 80; tabs, newlines and form feeds are blanks, not controls.
func isControl(n int) bool {
	return n < 0x20 && n != 0x09 && n != 0x0A && n != 0x0C || n == 0x7F
}
