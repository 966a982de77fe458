package lexer

import (
	"strings"

	"beadle/api"
)

// text is the state ahead of every token.
func (l *Lexer) text() state {
	c, ok := l.peek()
	switch {
	case !ok:
		l.over = true
		return l.tell(Token{Kind: End, At: l.end})
	case c == '<' && l.mode != Plain:
		l.less = l.pos
		l.take()
		if l.mode == Data {
			return (*Lexer).behindLess
		}
		return (*Lexer).lessInText
	case c == '&' && (l.mode == Data || l.mode == Rcdata):
		return l.beginReference(nil)
	}
	return l.oneText()
}

func (l *Lexer) oneText() state {
	r := l.runes[l.pos]
	value := l.pass()
	if l.mode == Data {
		value = r.Value
	}
	return l.tell(Token{Kind: Text, Value: value, At: r.At})
}

// lessInText: behind a `<` in a mode that only an end tag ends.
func (l *Lexer) lessInText() state {
	if c, ok := l.peek(); !ok || c != '/' {
		return l.lessIsText()
	}
	l.take()
	l.matched = 0
	return (*Lexer).closingName
}

func (l *Lexer) closingName() state {
	c, ok := l.peek()
	if !ok {
		return l.lessIsText()
	}
	if l.matched == len(l.until) && endsName(c) {
		l.mode, l.until = Data, ""
		l.pos = l.less + 1
		return (*Lexer).behindLess
	}
	scalar := string(appendScalar(nil, small(c)))
	if !strings.HasPrefix(l.until[l.matched:], scalar) {
		return l.lessIsText()
	}
	l.matched += len(scalar)
	l.take()
	return (*Lexer).closingName
}

// lessIsText: all behind the `<` is looked at anew.
func (l *Lexer) lessIsText() state {
	l.pos = l.less + 1
	return l.tell(Token{Kind: Text, Value: '<', At: l.start()})
}

// start: the place of the `<` with which the token under way begins.
func (l *Lexer) start() int { return l.runes[l.less].At }

// behindLess: behind a `<` that may begin markup.
func (l *Lexer) behindLess() state {
	c, ok := l.peek()
	switch {
	case !ok:
		l.bad(api.EOFBeforeTagName, l.start())
		return l.lessIsText()
	case isLetter(c):
		return l.begin(Open, (*Lexer).tagName)
	case c == '/':
		l.take()
		return (*Lexer).behindLessSolidus
	case c == '!':
		l.take()
		return (*Lexer).behindBang
	case c == '?':
		l.bad(api.UnexpectedQuestionMarkInsteadOfTagName, l.start())
		return l.begin(Comment, (*Lexer).bogus)
	}
	l.bad(api.InvalidFirstCharacterOfTagName, l.start())
	return l.lessIsText()
}

func (l *Lexer) behindLessSolidus() state {
	c, ok := l.peek()
	switch {
	case !ok:
		l.bad(api.EOFBeforeTagName, l.start())
		return l.lessIsText()
	case isLetter(c):
		return l.begin(Close, (*Lexer).tagName)
	case c == '>':
		l.take()
		l.bad(api.MissingEndTagName, l.start())
		return (*Lexer).text
	}
	l.bad(api.InvalidFirstCharacterOfTagName, l.start())
	return l.begin(Comment, (*Lexer).bogus)
}

// begin a token of a kind, which first goes on as next says.
func (l *Lexer) begin(kind int, next state) state {
	l.token = Token{Kind: kind, At: l.start()}
	l.word = l.word[:0]
	l.attr = attribute{}
	return next
}
