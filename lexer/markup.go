package lexer

import "beadle/api"

// behindBang: behind `<!`, and as much of the word as was met.
func (l *Lexer) behindBang() state {
	const word = "doctype"
	c, ok := l.peek()
	met := l.pos - l.less - len("<!")
	switch {
	case ok && met == 0 && c == '-':
		l.take()
		return (*Lexer).secondDash
	case !ok || small(c) != int(word[met]):
		return l.wronglyOpened()
	}
	l.take()
	if met+1 < len(word) {
		return (*Lexer).behindBang
	}
	return l.begin(Doctype, (*Lexer).behindDoctype)
}

func (l *Lexer) secondDash() state {
	if c, ok := l.peek(); !ok || c != '-' {
		return l.wronglyOpened()
	}
	l.take()
	return l.begin(Comment, (*Lexer).comment)
}

func (l *Lexer) wronglyOpened() state {
	l.bad(api.IncorrectlyOpenedComment, l.start())
	l.pos = l.less + len("<!")
	return l.begin(Comment, (*Lexer).bogus)
}

// bogus: a comment that the next `>` ends.
func (l *Lexer) bogus() state {
	c, ok := l.peek()
	if !ok {
		return l.tellComment("")
	}
	if c == '>' {
		l.take()
		return l.tellComment("")
	}
	l.word = appendScalar(l.word, l.pass())
	return (*Lexer).bogus
}

func (l *Lexer) comment() state {
	c, ok := l.peek()
	switch {
	case !ok:
		l.bad(api.EOFInComment, l.start())
		return l.tellComment(l.tail("--!", "--", "-"))
	case c == '>':
		return l.greaterInComment()
	}
	l.word = appendScalar(l.word, l.pass())
	return (*Lexer).comment
}

func (l *Lexer) greaterInComment() state {
	l.take()
	if met := string(l.word); met == "" || met == "-" {
		l.bad(api.AbruptClosingOfEmptyComment, l.start())
		return l.tellComment(met)
	}
	tail := l.tail("--!", "--")
	if tail == "" {
		l.word = append(l.word, '>')
		return (*Lexer).comment
	}
	if tail == "--!" {
		l.bad(api.IncorrectlyClosedComment, l.start())
	}
	return l.tellComment(tail)
}

// tail: the first of some texts with which what is put together ends; empty, where it ends with none.
func (l *Lexer) tail(texts ...string) string {
	ends := func(text string) bool {
		from := len(l.word) - len(text)
		if from < 0 {
			return false
		}
		for i := range len(text) {
			if l.word[from+i] != text[i] {
				return false
			}
		}
		return true
	}
	for _, text := range texts {
		if ends(text) {
			return text
		}
	}
	return ""
}

// tellComment: a tail of what was put together may be a part of its end.
func (l *Lexer) tellComment(tail string) state {
	t := l.token
	t.Data = string(l.word[:len(l.word)-len(tail)])
	return l.tell(t)
}
