package sniff

import "strings"

// small is for bytes, whatever they are: strings.ToLower would also change letters beyond A to Z, and bytes that are no UTF-8.
func small(s string) string {
	b := []byte(s)
	for i, c := range b {
		if c >= 'A' && c <= 'Z' {
			b[i] = c - 'A' + 'a'
		}
	}
	return string(b)
}

func isLetter(c byte) bool {
	return c >= 'A' && c <= 'Z' || c >= 'a' && c <= 'z'
}

func isQuote(c byte) bool {
	return c == '"' || c == '\''
}

// passOver: the first place from at on whose byte is none of set, or the end.
func passOver(s string, at int, set string) int {
	for at < len(s) && strings.IndexByte(set, s[at]) >= 0 {
		at++
	}
	return at
}

// upTo: the first place from at on whose byte is one of set, or the end.
func upTo(s string, at int, set string) int {
	for at < len(s) && strings.IndexByte(set, s[at]) < 0 {
		at++
	}
	return at
}

// quoted: what stands between the quote that s begins with and the next one like it.
func quoted(s string) (string, bool) {
	end := strings.IndexByte(s[1:], s[0])
	if end < 0 {
		return "", false
	}
	return s[1 : 1+end], true
}
