package sniff

import (
	"slices"
	"strings"

	"beadle/api"
)

const metaTag = "<meta"

// Prescan: the name that the first bytes tell.
func Prescan(data string) (string, bool) {
	data = data[:min(len(data), api.MaxPre)]
	for p := 0; p < len(data); p++ {
		rest := data[p:]
		switch {
		case strings.HasPrefix(rest, "<!--"):
			p = commentEnd(data, p)
		case beginsMeta(rest):
			var m meta
			p = m.read(data, p+len(metaTag))
			if m.tells() {
				return m.name, true
			}
		case beginsTag(rest):
			p = behindAttributes(data, upTo(data, p, blanks+">"))
		case beginsOther(rest):
			p = upTo(data, p, ">")
		}
	}
	return "", false
}

func beginsMeta(s string) bool {
	n := len(metaTag)
	return len(s) > n && small(s[:n]) == metaTag && strings.IndexByte(blanks+"/", s[n]) >= 0
}

func beginsTag(s string) bool {
	name, ok := strings.CutPrefix(s, "<")
	name = strings.TrimPrefix(name, "/")
	return ok && name != "" && isLetter(name[0])
}

func beginsOther(s string) bool {
	return len(s) > 1 && s[0] == '<' && strings.IndexByte("!/?", s[1]) >= 0
}

func commentEnd(data string, p int) int {
	// The dashes that open a comment may also be those that close it.
	from := p + len("<!")
	i := strings.Index(data[from:], "-->")
	if i < 0 {
		return len(data)
	}
	return from + i + len("--")
}

func behindAttributes(data string, at int) int {
	for {
		_, end, ok := Attribute(data, at)
		if !ok {
			return end
		}
		at = end
	}
}

// meta is what the attributes of one meta tag tell of a coding.
type meta struct {
	seen           []string
	name           string
	pragma, wanted bool
}

func (m *meta) read(data string, at int) int {
	for {
		a, end, ok := Attribute(data, at)
		if !ok {
			return end
		}
		m.take(a)
		at = end
	}
}

func (m *meta) take(a api.Attr) {
	if slices.Contains(m.seen, a.Name) {
		return
	}
	m.seen = append(m.seen, a.Name)
	switch a.Name {
	case "http-equiv":
		m.pragma = a.Value == "content-type"
	case "content":
		// An empty name counts as none here, so that no flag is needed beside it.
		if name, ok := Charset(a.Value); ok && m.name == "" {
			m.name, m.wanted = name, true
		}
	case "charset":
		m.name, m.wanted = a.Value, false
	}
}

func (m *meta) tells() bool {
	return strings.Trim(m.name, blanks) != "" && (m.pragma || !m.wanted)
}
