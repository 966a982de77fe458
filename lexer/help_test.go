package lexer_test

import (
	"fmt"
	"slices"
	"strings"
	"testing"

	"beadle/api"
	"beadle/lexer"
	"beadle/merge"
)

func runes(s string) []api.Rune {
	var out []api.Rune
	for i, v := range s {
		out = append(out, api.Rune{Value: int(v), At: i})
	}
	return out
}

func drain(l *lexer.Lexer) []lexer.Token {
	var out []lexer.Token
	for t, ok := l.Next(); ok; t, ok = l.Next() {
		out = append(out, t)
	}
	return out
}

// lexed: the tokens of a whole text in one mode.
func lexed(mode int, name, text string) ([]lexer.Token, []api.Diag) {
	l := lexer.New()
	l.Mode(mode, name)
	l.Put(runes(text))
	l.Close(len(text))
	return drain(l), l.Wrong()
}

// show writes tokens down: a row of Texts as one quoted text, an End as a dot.
func show(tokens []lexer.Token) string {
	var parts []string
	var text []rune
	flush := func() {
		if text != nil {
			parts = append(parts, fmt.Sprintf("%q", string(text)))
			text = nil
		}
	}
	for _, t := range tokens {
		if t.Kind == lexer.Text {
			text = append(text, rune(t.Value))
			continue
		}
		flush()
		parts = append(parts, showMarkup(t))
	}
	flush()
	return strings.Join(parts, " ")
}

func showMarkup(t lexer.Token) string {
	switch t.Kind {
	case lexer.End:
		return "."
	case lexer.Comment:
		return fmt.Sprintf("comment(%q)", t.Data)
	case lexer.Doctype:
		if t.Quirks {
			return fmt.Sprintf("quirks(%q)", t.Name)
		}
		return fmt.Sprintf("doctype(%q)", t.Name)
	}
	s := "open("
	if t.Kind == lexer.Close {
		s = "close("
	}
	s += fmt.Sprintf("%q", t.Name)
	for _, a := range t.Attrs {
		s += fmt.Sprintf(" %q=%q", a.Name, a.Value)
	}
	if t.Self {
		s += " self"
	}
	return s + ")"
}

// showWrong writes down what is wrong, in the order in which it was told.
func showWrong(wrong []api.Diag) string {
	var parts []string
	for _, d := range wrong {
		parts = append(parts, fmt.Sprintf("%s@%d%s", merge.Name(d.Code), d.At, d.Node))
	}
	return strings.Join(parts, " ")
}

// inOrder: of two such texts that say the same the same, as that order isn't promised.
func inOrder(wrong string) []string {
	return slices.Sorted(strings.FieldsSeq(wrong))
}

// row: a text, and what is told of it.
type row struct{ text, tokens, wrong string }

func checkRows(t *testing.T, mode int, name string, rows []row) {
	t.Helper()
	for _, r := range rows {
		tokens, wrong := lexed(mode, name, r.text)
		if got := show(tokens); got != r.tokens {
			t.Errorf("%q:\n got %s\nwant %s", r.text, got, r.tokens)
		}
		if got := showWrong(wrong); !slices.Equal(inOrder(got), inOrder(r.wrong)) {
			t.Errorf("%q is wrong:\n got %s\nwant %s", r.text, got, r.wrong)
		}
	}
}
