package charref_test

import (
	"math"
	"testing"

	"beadle/api"
	"beadle/charref"
	"beadle/decode"
	"beadle/sniff"
)

const bad = 0xFFFD

// P4.2
func TestNumber(t *testing.T) {
	for _, c := range []struct {
		n, value int
		code     api.Code
	}{
		{0, bad, api.NullCharacterReference},
		{-1, bad, api.CharacterReferenceOutsideUnicodeRange},
		{math.MinInt, bad, api.CharacterReferenceOutsideUnicodeRange},
		{0x110000, bad, api.CharacterReferenceOutsideUnicodeRange},
		{0x11FFFF, bad, api.CharacterReferenceOutsideUnicodeRange},
		{math.MaxInt, bad, api.CharacterReferenceOutsideUnicodeRange},
		{0xD7FF, 0xD7FF, 0},
		{0xD800, bad, api.SurrogateCharacterReference},
		{0xDBFF, bad, api.SurrogateCharacterReference},
		{0xDFFF, bad, api.SurrogateCharacterReference},
		{0xE000, 0xE000, 0},
		{0xFDCF, 0xFDCF, 0},
		{0xFDD0, 0xFDD0, api.NoncharacterCharacterReference},
		{0xFDEF, 0xFDEF, api.NoncharacterCharacterReference},
		{0xFDF0, 0xFDF0, 0},
		{0xFFFD, 0xFFFD, 0},
		{0xFFFE, 0xFFFE, api.NoncharacterCharacterReference},
		{0xFFFF, 0xFFFF, api.NoncharacterCharacterReference},
		{0x10000, 0x10000, 0},
		{0x1FDD0, 0x1FDD0, 0},
		{0x1FFFD, 0x1FFFD, 0},
		{0x1FFFE, 0x1FFFE, api.NoncharacterCharacterReference},
		{0x10FFFD, 0x10FFFD, 0},
		{0x10FFFE, 0x10FFFE, api.NoncharacterCharacterReference},
		{0x10FFFF, 0x10FFFF, api.NoncharacterCharacterReference},
		{0x20, 0x20, 0}, {0x41, 0x41, 0}, {0x7E, 0x7E, 0},
		{0x7F, 0x7F, api.ControlCharacterReference},
		{0x80, 0x20AC, api.ControlCharacterReference},
		{0x81, 0x81, api.ControlCharacterReference},
		{0x9F, 0x178, api.ControlCharacterReference},
		{0xA0, 0xA0, 0}, {0xE4, 0xE4, 0}, {0xFE, 0xFE, 0}, {0xFF, 0xFF, 0},
	} {
		if value, code := charref.Number(c.n); value != c.value || code != c.code {
			t.Errorf("Number(%x): %x, %d; want %x, %d", c.n, value, code, c.value, c.code)
		}
	}
}

// P4.2
func TestNumberBelowBlank(t *testing.T) {
	for n := 1; n < 0x20; n++ {
		want := api.ControlCharacterReference
		if n == 0x09 || n == 0x0A || n == 0x0C {
			want = 0
		}
		if value, code := charref.Number(n); value != n || code != want {
			t.Errorf("Number(%x): %x, %d; want %d", n, value, code, want)
		}
	}
}

// P4.2: from 80 to 9F the table is layer 2's.
func TestNumberOfWindows(t *testing.T) {
	for n := 0x80; n < 0xA0; n++ {
		runes, _ := decode.New(sniff.Windows, 0).Feed(string([]byte{byte(n)}))
		if value, code := charref.Number(n); value != runes[0].Value || code != api.ControlCharacterReference {
			t.Errorf("Number(%x): %x, %d; want %x", n, value, code, runes[0].Value)
		}
	}
}

// P4.2: whatever the number, the answer is a scalar.
func TestNumberIsScalar(t *testing.T) {
	for n := -100; n < 0x111000; n++ {
		value, code := charref.Number(n)
		if value <= 0 || value > 0x10FFFF || value >= 0xD800 && value <= 0xDFFF {
			t.Fatalf("Number(%x): %x", n, value)
		}
		if value != n && code == 0 {
			t.Fatalf("Number(%x): %x without a code", n, value)
		}
	}
}
