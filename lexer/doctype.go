package lexer

import "beadle/api"

func (l *Lexer) behindDoctype() state {
	if c, ok := l.peek(); ok && !isBlank(c) && c != '>' {
		l.bad(api.MissingWhitespaceBeforeDoctypeName, l.start())
	}
	return (*Lexer).beforeDoctypeName
}

func (l *Lexer) beforeDoctypeName() state {
	c, ok := l.peek()
	switch {
	case !ok:
		return l.quirksDoctype(api.EOFInDoctype)
	case isBlank(c):
		l.take()
		return (*Lexer).beforeDoctypeName
	case c == '>':
		l.take()
		return l.quirksDoctype(api.MissingDoctypeName)
	}
	return (*Lexer).doctypeName
}

func (l *Lexer) doctypeName() state {
	c, ok := l.peek()
	if !ok || isBlank(c) || c == '>' {
		l.token.Name = string(l.word)
		return (*Lexer).behindDoctypeName
	}
	l.word = appendScalar(l.word, small(l.pass()))
	return (*Lexer).doctypeName
}

func (l *Lexer) behindDoctypeName() state {
	c, ok := l.peek()
	switch {
	case !ok:
		return l.quirksDoctype(api.EOFInDoctype)
	case isBlank(c):
		l.take()
		return (*Lexer).behindDoctypeName
	case c == '>':
		l.take()
		return l.tell(l.token)
	}
	l.bad(api.InvalidCharacterSequenceAfterDoctypeName, l.start())
	l.token.Quirks = true
	return (*Lexer).doctypeRest
}

// doctypeRest is left out, whatever it is.
func (l *Lexer) doctypeRest() state {
	c, ok := l.peek()
	if !ok {
		return l.tell(l.token)
	}
	l.take()
	if c == '>' {
		return l.tell(l.token)
	}
	return (*Lexer).doctypeRest
}

func (l *Lexer) quirksDoctype(code api.Code) state {
	l.bad(code, l.start())
	l.token.Quirks = true
	return l.tell(l.token)
}
