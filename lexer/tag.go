package lexer

import "beadle/api"

// attribute is the one that is being read, beside the names of those ahead of it. Its own name is the lexer's word.
type attribute struct {
	at    int // of its name
	quote int // with which its value ends
	value []byte
	names map[string]int // how often each was there
}

func (l *Lexer) tagName() state {
	c, ok := l.peek()
	switch {
	case !ok:
		return l.endInTag()
	case endsName(c):
		l.token.Name = string(l.word)
		return (*Lexer).inTag
	}
	l.word = appendScalar(l.word, small(l.pass()))
	return (*Lexer).tagName
}

// inTag: ahead of an attribute, or of the tag's end.
func (l *Lexer) inTag() state {
	c, ok := l.peek()
	switch {
	case !ok:
		return l.endInTag()
	case isBlank(c):
		l.take()
		return (*Lexer).inTag
	case c == '>':
		l.take()
		return l.tellTag()
	case c == '/':
		l.take()
		return (*Lexer).behindSolidus
	}
	return l.beginAttribute(c)
}

// behindSolidus: the end is no `>` either, so a `/` that stands last is told too.
func (l *Lexer) behindSolidus() state {
	if c, ok := l.peek(); ok && c == '>' {
		l.take()
		l.token.Self = true
		return l.tellTag()
	}
	l.bad(api.UnexpectedSolidusInTag, l.runes[l.pos-1].At)
	return (*Lexer).inTag
}

func (l *Lexer) beginAttribute(c int) state {
	l.attr.at = l.here()
	l.attr.value = l.attr.value[:0]
	l.word = l.word[:0]
	if c == '=' {
		l.bad(api.UnexpectedEqualsSignBeforeAttributeName, l.here())
		l.word = append(l.word, '=')
		l.take()
	}
	return (*Lexer).attrName
}

func (l *Lexer) attrName() state {
	c, ok := l.peek()
	switch {
	case !ok:
		return l.endInTag()
	case endsName(c) || c == '=':
		return (*Lexer).behindAttrName
	case c == '"' || c == '\'' || c == '<':
		l.bad(api.UnexpectedCharacterInAttributeName, l.here())
	}
	l.word = appendScalar(l.word, small(l.pass()))
	return (*Lexer).attrName
}

func (l *Lexer) behindAttrName() state {
	c, ok := l.peek()
	switch {
	case !ok:
		return l.endInTag()
	case isBlank(c):
		l.take()
		return (*Lexer).behindAttrName
	case c == '=':
		l.take()
		return (*Lexer).beforeValue
	}
	return l.endAttribute((*Lexer).inTag)
}

func (l *Lexer) beforeValue() state {
	c, ok := l.peek()
	switch {
	case !ok:
		return l.endInTag()
	case isBlank(c):
		l.take()
		return (*Lexer).beforeValue
	case c == '>':
		l.bad(api.MissingAttributeValue, l.here())
		return l.endAttribute((*Lexer).inTag)
	case c == '"' || c == '\'':
		l.attr.quote = c
		l.take()
		return (*Lexer).quoted
	}
	return (*Lexer).unquoted
}

func (l *Lexer) quoted() state {
	c, ok := l.peek()
	switch {
	case !ok:
		return l.endInTag()
	case c == l.attr.quote:
		l.take()
		return l.endAttribute((*Lexer).behindQuoted)
	case c == '&':
		return l.beginReference((*Lexer).quoted)
	}
	l.attr.value = appendScalar(l.attr.value, l.pass())
	return (*Lexer).quoted
}

func (l *Lexer) behindQuoted() state {
	if c, ok := l.peek(); ok && !endsName(c) {
		l.bad(api.MissingWhitespaceBetweenAttributes, l.here())
	}
	return (*Lexer).inTag
}

func (l *Lexer) unquoted() state {
	c, ok := l.peek()
	switch {
	case !ok:
		return l.endInTag()
	case isBlank(c) || c == '>':
		return l.endAttribute((*Lexer).inTag)
	case c == '&':
		return l.beginReference((*Lexer).unquoted)
	case c == '"' || c == '\'' || c == '<' || c == '=' || c == graveAccent:
		l.bad(api.UnexpectedCharacterInUnquotedAttributeValue, l.here())
	}
	l.attr.value = appendScalar(l.attr.value, l.pass())
	return (*Lexer).unquoted
}

// endAttribute: names are counted in a map, as a tag may have very many.
func (l *Lexer) endAttribute(next state) state {
	if l.attr.names == nil {
		l.attr.names = map[string]int{}
	}
	name := string(l.word)
	l.attr.names[name]++
	if l.attr.names[name] > 1 {
		l.bad(api.DuplicateAttribute, l.attr.at)
		return next
	}
	l.token.Attrs = append(l.token.Attrs, api.Attr{Name: name, Value: string(l.attr.value)})
	return next
}

func (l *Lexer) tellTag() state {
	t := l.token
	if t.Kind == Open {
		return l.tell(t)
	}
	if len(t.Attrs) > 0 {
		l.bad(api.EndTagWithAttributes, t.At)
	}
	if t.Self {
		l.bad(api.EndTagWithTrailingSolidus, t.At)
	}
	t.Attrs, t.Self = nil, false
	return l.tell(t)
}

func (l *Lexer) endInTag() state {
	l.bad(api.EOFInTag, l.start())
	return (*Lexer).text
}
