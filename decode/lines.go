package decode

import (
	"slices"

	"beadle/api"
)

// Lines: newlines in one form.
type Lines struct {
	returned bool // the last scalar was a 0D
}

// Pass: scalars with newlines in one form.
func (l *Lines) Pass(in []api.Rune) []api.Rune {
	if l == nil {
		return slices.Clone(in)
	}
	var out []api.Rune
	for _, r := range in {
		behind := l.returned
		l.returned = r.Value == '\r'
		if behind && r.Value == '\n' {
			continue
		}
		if l.returned {
			r.Value = '\n'
		}
		out = append(out, r)
	}
	return out
}
