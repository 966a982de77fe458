package dump

import "strings"

// Quote: a text in quotes.
func Quote(s string) string {
	behind := signsBehindBackslash()
	out := []byte{'"'}
	for i := range len(s) {
		if sign, ok := behind[s[i]]; ok {
			out = append(out, '\\', sign)
		} else {
			out = append(out, s[i])
		}
	}
	return string(append(out, '"'))
}

// Unquote: the text that stands in quotes ahead, and what is behind.
func Unquote(s string) (string, string, bool) {
	if !strings.HasPrefix(s, `"`) {
		return "", "", false
	}
	meant := bytesMeant()
	var out []byte
	for i := 1; i < len(s); i++ {
		switch s[i] {
		case '"':
			return string(out), s[i+1:], true
		case '\n':
			return "", "", false // Quote would have told it by a backslash
		case '\\':
			i++
			if i == len(s) || meant[s[i]] == 0 {
				return "", "", false
			}
			out = append(out, meant[s[i]])
		default:
			out = append(out, s[i])
		}
	}
	return "", "", false
}

// signsBehindBackslash: for each byte that Quote doesn't leave as it is, what tells it.
func signsBehindBackslash() map[byte]byte {
	return map[byte]byte{'"': '"', '\\': '\\', '\n': 'n'}
}

// bytesMeant is the way back; of a sign that tells nothing it has 0, which is never told so.
func bytesMeant() map[byte]byte {
	meant := map[byte]byte{}
	for b, sign := range signsBehindBackslash() {
		meant[sign] = b
	}
	return meant
}
