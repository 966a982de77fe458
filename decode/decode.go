// Package decode is layer 2: see shared/doc/02-decode.md.
package decode

import "beadle/api"

// utf8 is layer 1's number of that coding, written anew since this layer leans on api alone; its test holds the two against each other.
const utf8 = 1

const replacement = 0xFFFD

// windowsHigh: what the bytes from 80 to 9F are.
var windowsHigh = [32]int{
	0x20AC, 0x81, 0x201A, 0x192, 0x201E, 0x2026, 0x2020, 0x2021,
	0x2C6, 0x2030, 0x160, 0x2039, 0x152, 0x8D, 0x17D, 0x8F,
	0x90, 0x2018, 0x2019, 0x201C, 0x201D, 0x2022, 0x2013, 0x2014,
	0x2DC, 0x2122, 0x161, 0x203A, 0x153, 0x9D, 0x17E, 0x178,
}

// Decoder makes scalars of bytes, part by part.
type Decoder struct {
	coding int
	at     int // of the next byte
	open   sequence
}

// sequence is one of UTF-8 whose last bytes are still to come.
type sequence struct {
	at        int // of its first byte
	value     int // the bits that are known
	wanting   int // how many bytes are to come; 0: no sequence is open
	low, high byte
}

// told is what one call answers.
type told struct {
	runes []api.Rune
	wrong []api.Diag
}

// New: of a coding of layer 1; the first byte's place.
func New(coding, at int) *Decoder {
	return &Decoder{coding: coding, at: at}
}

// Feed: the scalars that some bytes tell, and what is wrong with them.
func (d *Decoder) Feed(part string) ([]api.Rune, []api.Diag) {
	if d == nil {
		return nil, nil
	}
	var out told
	for i := range len(part) {
		if d.coding == utf8 {
			d.takeUTF8(part[i], &out)
		} else {
			out.tell(windows(part[i]), d.at)
		}
		d.at++
	}
	return out.runes, out.wrong
}

// End: what is left.
func (d *Decoder) End() ([]api.Rune, []api.Diag) {
	if d == nil {
		return nil, nil
	}
	var out told
	if d.open.wanting > 0 {
		d.giveUp(&out)
	}
	return out.runes, out.wrong
}

func windows(b byte) int {
	if b >= 0x80 && b < 0xA0 {
		return windowsHigh[b-0x80]
	}
	return int(b)
}

func (d *Decoder) takeUTF8(b byte, out *told) {
	if d.open.wanting > 0 && !d.open.fits(b) {
		d.giveUp(out)
	}
	if d.open.wanting > 0 {
		d.goOn(b, out)
	} else {
		d.begin(b, out)
	}
}

func (d *Decoder) begin(b byte, out *told) {
	switch {
	case b < 0x80:
		out.tell(int(b), d.at)
	case b < 0xC2 || b > 0xF4:
		out.bad(d.at)
	default:
		d.open = opened(b, d.at)
	}
}

func opened(first byte, at int) sequence {
	s := sequence{at: at}
	s.low, s.high = second(first)
	switch {
	case first < 0xE0:
		s.value, s.wanting = int(first&0x1F), 1
	case first < 0xF0:
		s.value, s.wanting = int(first&0x0F), 2
	default:
		s.value, s.wanting = int(first&0x07), 3
	}
	return s
}

func (d *Decoder) goOn(b byte, out *told) {
	s := &d.open
	s.value = s.value<<6 | int(b&0x3F)
	s.wanting--
	s.low, s.high = 0x80, 0xBF
	if s.wanting == 0 {
		out.tell(s.value, s.at)
		d.open = sequence{}
	}
}

func (d *Decoder) giveUp(out *told) {
	out.bad(d.open.at)
	d.open = sequence{}
}

// second: the bounds of the byte behind a first one; narrower where a scalar would be written too long, or be none.
func second(first byte) (byte, byte) {
	switch first {
	case 0xE0:
		return 0xA0, 0xBF
	case 0xED:
		return 0x80, 0x9F
	case 0xF0:
		return 0x90, 0xBF
	case 0xF4:
		return 0x80, 0x8F
	}
	return 0x80, 0xBF
}

func (s *sequence) fits(b byte) bool {
	return b >= s.low && b <= s.high
}

func (t *told) tell(value, at int) {
	t.runes = append(t.runes, api.Rune{Value: value, At: at})
}

func (t *told) bad(at int) {
	t.tell(replacement, at)
	t.wrong = append(t.wrong, api.Diag{Code: api.BadSequence, At: at})
}
