package lexer

import (
	"strings"

	"beadle/api"
	"beadle/charref"
)

// reference is the one that is being read.
type reference struct {
	amp          int   // of runes, its `&`
	back         state // the value in which it stands; none in text
	name         []byte
	base, number int
	digits       bool // there were some
}

// loose is a `&` that is text, while letters and digits alone follow it: a `;` behind these tells that a name was meant.
type loose struct {
	on bool
	at int
}

func (l *Lexer) followLoose(c int) {
	if !l.loose.on || isLetterOrDigit(c) {
		return
	}
	if c == ';' {
		l.bad(api.UnknownNamedCharacterReference, l.loose.at)
	}
	l.loose = loose{}
}

func (l *Lexer) beginReference(back state) state {
	l.ref = reference{amp: l.pos, back: back, name: l.ref.name[:0], base: 10}
	l.take()
	return (*Lexer).behindAmp
}

// ampAt: the place of the reference.
func (l *Lexer) ampAt() int { return l.runes[l.ref.amp].At }

func (l *Lexer) behindAmp() state {
	c, ok := l.peek()
	switch {
	case ok && c == '#':
		l.take()
		return (*Lexer).behindHash
	case ok && isLetterOrDigit(c):
		return (*Lexer).refName
	}
	return l.ampIsText()
}

func (l *Lexer) behindHash() state {
	if c, ok := l.peek(); ok && small(c) == 'x' {
		l.ref.base = 16
		l.take()
	}
	return (*Lexer).refDigits
}

func (l *Lexer) refDigits() state {
	c, ok := l.peek()
	if digit := digitOf(c); ok && digit < l.ref.base {
		// Above the last scalar all numbers are the same, and there may be digits without end.
		if l.ref.number <= lastScalar {
			l.ref.number = l.ref.number*l.ref.base + digit
		}
		l.ref.digits = true
		l.take()
		return (*Lexer).refDigits
	}
	if !l.ref.digits {
		l.bad(api.AbsenceOfDigitsInNumericCharacterReference, l.ampAt())
		return l.ampIsText()
	}
	if ok && c == ';' {
		l.take()
	} else {
		l.bad(api.MissingSemicolonAfterCharacterReference, l.ampAt())
	}
	scalar, code := charref.Number(l.ref.number)
	if code != 0 {
		l.bad(code, l.ampAt())
	}
	return l.refer(scalar)
}

func (l *Lexer) refName() state {
	c, ok := l.peek()
	if !ok || !isLetterOrDigit(c) && c != ';' {
		return l.endRefName()
	}
	l.take()
	l.ref.name = append(l.ref.name, byte(c))
	if charref.Begins(string(l.ref.name)) {
		return (*Lexer).refName
	}
	return l.endRefName()
}

// endRefName: no longer name can be met.
func (l *Lexer) endRefName() state {
	name, scalars := charref.Longest(string(l.ref.name))
	behind := l.ref.amp + 1 + len(name)
	switch {
	case name == "":
		l.loose = loose{on: true, at: l.ampAt()}
		return l.ampIsText()
	case strings.HasSuffix(name, ";"):
	case l.ref.back != nil && l.goesOn(behind):
		return l.ampIsText()
	default:
		l.bad(api.MissingSemicolonAfterCharacterReference, l.ampAt())
	}
	l.pos = behind
	return l.refer(scalars...)
}

// goesOn: does a value go on as if no name had ended there? What stands there is known, since each name without `;` is there with it too, and was waited for.
func (l *Lexer) goesOn(i int) bool {
	if i >= len(l.runes) {
		return false
	}
	c := l.runes[i].Value
	return c == '=' || isLetterOrDigit(c)
}

// ampIsText: all behind the `&` is looked at anew.
func (l *Lexer) ampIsText() state {
	l.pos = l.ref.amp + 1
	return l.refer('&')
}

// refer puts the scalars of a reference, of which there is at least one, where it stands.
func (l *Lexer) refer(scalars ...int) state {
	if l.ref.back != nil {
		for _, c := range scalars {
			l.attr.value = appendScalar(l.attr.value, c)
		}
		return l.ref.back
	}
	for _, c := range scalars[1:] {
		l.later = append(l.later, Token{Kind: Text, Value: c, At: l.ampAt()})
	}
	return l.tell(Token{Kind: Text, Value: scalars[0], At: l.ampAt()})
}
