// Package sniff is layer 1: see shared/doc/01-sniff.md.
package sniff

import (
	"strings"

	"beadle/api"
)

// The codings.
const (
	UTF8 = iota + 1
	Windows
)

const (
	blanks = "\t\n\f\r "
	mark   = "\xef\xbb\xbf"
)

// Label: the coding of a name.
func Label(name string) (int, bool) {
	switch small(strings.Trim(name, blanks)) {
	case "utf-8", "utf8", "unicode-1-1-utf-8", "utf-16", "utf-16le", "utf-16be":
		return UTF8, true
	case "windows-1252", "cp1252", "latin1", "l1", "iso-8859-1", "ascii", "us-ascii":
		return Windows, true
	}
	return 0, false
}

// Charset: the name in a text such as "text/html; charset=utf-8".
func Charset(text string) (string, bool) {
	const word = "charset"
	low := small(text)
	at := 0
	for {
		i := strings.Index(low[at:], word)
		if i < 0 {
			return "", false
		}
		at = passOver(text, at+i+len(word), blanks)
		if at < len(text) && text[at] == '=' {
			return charsetValue(text[at+1:])
		}
	}
}

func charsetValue(rest string) (string, bool) {
	rest = strings.TrimLeft(rest, blanks)
	if rest == "" {
		return "", false
	}
	if isQuote(rest[0]) {
		return quoted(rest)
	}
	return rest[:upTo(rest, 0, blanks+";")], true
}

// Attribute: the next one from a place on, and where it ends.
func Attribute(data string, at int) (api.Attr, int, bool) {
	if at < 0 || at > len(data) {
		return api.Attr{}, 0, false
	}
	at = passOver(data, at, blanks+"/")
	if at == len(data) || data[at] == '>' {
		return api.Attr{}, at, false
	}
	// The first byte is of the name even if it is a =, so the end is looked for behind it.
	end := upTo(data, at+1, blanks+"=/>")
	if end == len(data) {
		return api.Attr{}, end, false
	}
	name := small(data[at:end])
	end = passOver(data, end, blanks)
	if end == len(data) || data[end] != '=' {
		return api.Attr{Name: name}, end, true
	}
	value, end, ok := attributeValue(data, end+1)
	if !ok {
		return api.Attr{}, end, false
	}
	return api.Attr{Name: name, Value: value}, end, true
}

func attributeValue(data string, at int) (string, int, bool) {
	at = passOver(data, at, blanks)
	if at == len(data) {
		return "", at, false
	}
	if isQuote(data[at]) {
		value, ok := quoted(data[at:])
		if !ok {
			return "", len(data), false
		}
		return small(value), at + len(value) + 2, true
	}
	end := upTo(data, at, blanks+">")
	if end == len(data) {
		return "", end, false
	}
	return small(data[at:end]), end, true
}

// Choose: the coding of a document, how long its mark is, and whether its name is none of ours.
func Choose(data, transport string) (int, int, bool) {
	if strings.HasPrefix(data, mark) {
		return UTF8, len(mark), false
	}
	name := transport
	if name == "" {
		told, ok := Prescan(data)
		if !ok {
			return Windows, 0, false
		}
		name = told
	}
	coding, ok := Label(name)
	if !ok {
		return Windows, 0, true
	}
	return coding, 0, false
}
