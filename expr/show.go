package expr

import "strings"

// alone is how tight that is bound which is no row of parts: it never needs brackets.
const alone = 4

// Show: the one text of an expression.
func Show(e Expr) string {
	var out strings.Builder
	show(&out, e)
	return out.String()
}

func show(out *strings.Builder, e Expr) {
	switch e.Kind {
	case Name:
		out.WriteString(e.Word)
	case Category:
		out.WriteString("@" + e.Word)
	case Text:
		out.WriteString(textWord)
	case Empty:
		out.WriteString("()")
	}
	for i, kid := range e.Kids {
		if i > 0 {
			out.WriteString(between(e.Kind))
		}
		showKid(out, kid, needsBrackets(e.Kind, kid.Kind))
	}
	out.WriteString(behind(e.Kind))
}

func showKid(out *strings.Builder, kid Expr, brackets bool) {
	if brackets {
		out.WriteByte('(')
	}
	show(out, kid)
	if brackets {
		out.WriteByte(')')
	}
}

// needsBrackets: what binds no tighter than what it stands in would be read otherwise without.
func needsBrackets(outer, inner int) bool {
	return tight(inner) < alone && tight(inner) <= tight(outer)
}

// tight: the greater, the tighter its parts are bound.
func tight(kind int) int {
	switch kind {
	case Alt:
		return 1
	case All:
		return 2
	case Seq:
		return 3
	}
	return alone
}

// between: what stands between two parts of a kind.
func between(kind int) string {
	switch kind {
	case Alt:
		return "|"
	case All:
		return "&"
	case Seq:
		return " "
	}
	return ""
}

// behind: what stands behind the part of a kind.
func behind(kind int) string {
	switch kind {
	case Star:
		return "*"
	case Plus:
		return "+"
	case Maybe:
		return "?"
	}
	return ""
}
