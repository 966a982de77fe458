package lexer_test

import (
	"fmt"
	"math/rand"
	"reflect"
	"slices"
	"strings"
	"testing"

	"beadle/api"
	"beadle/charref"
	"beadle/lexer"
)

// slow reads a whole document by the chapter's words, sentence by sentence, with all of it at hand.
type slow struct {
	all    []api.Rune
	i, end int
	mode   int
	name   string
	tokens []lexer.Token
	wrong  []api.Diag
}

// modes: what follows a token.
type modes func(lexer.Token) (int, string)

func slowly(text string, m modes) ([]lexer.Token, []api.Diag) {
	s := &slow{all: runes(text), end: len(text)}
	for s.i < len(s.all) {
		n := len(s.tokens)
		s.one()
		for _, k := range s.tokens[n:] {
			s.mode, s.name = m(k)
		}
	}
	s.tokens = append(s.tokens, lexer.Token{At: s.end})
	return s.tokens, s.wrong
}

// from: all from a place among the scalars on, 00 as itself.
func (s *slow) from(i int) string {
	var b strings.Builder
	for _, r := range s.all[min(i, len(s.all)):] {
		b.WriteRune(rune(r.Value))
	}
	return b.String()
}

func (s *slow) bad(code api.Code, i int) {
	s.wrong = append(s.wrong, api.Diag{Code: code, At: s.all[i].At})
}

func (s *slow) is(i int, signs string) bool {
	return i < len(s.all) && strings.ContainsRune(signs, rune(s.all[i].Value))
}

const (
	blanks  = "\t\n\f "
	digits  = "0123456789"
	letters = "abcdefghijklmnopqrstuvwxyzABCDEFGHIJKLMNOPQRSTUVWXYZ"
)

// upTo: the scalars from i up to one of the signs, with FFFD for 00.
func (s *slow) upTo(i int, signs string) (string, int) {
	var b strings.Builder
	for i < len(s.all) && !s.is(i, signs) {
		b.WriteString(s.clean(i))
		i++
	}
	return b.String(), i
}

func (s *slow) clean(i int) string {
	if s.all[i].Value == 0 {
		s.bad(api.UnexpectedNullCharacter, i)
		return "\ufffd"
	}
	return string(rune(s.all[i].Value))
}

func (s *slow) pass(i int, signs string) int {
	for s.is(i, signs) {
		i++
	}
	return i
}

func lower(text string) string {
	return strings.Map(func(r rune) rune {
		if r >= 'A' && r <= 'Z' {
			return r + 32
		}
		return r
	}, text)
}

func (s *slow) add(k lexer.Token, i int) {
	k.At = s.all[s.i].At
	s.tokens = append(s.tokens, k)
	s.i = i
}

func (s *slow) one() {
	rest := s.from(s.i)
	v := s.all[s.i].Value
	switch {
	case v == 0:
		s.bad(api.UnexpectedNullCharacter, s.i)
		if s.mode != lexer.Data {
			v = 0xFFFD
		}
	case s.mode == lexer.Plain:
	case v == '&' && s.mode != lexer.Raw:
		scalars, next := s.reference(s.i, false)
		at := s.i
		for _, c := range scalars {
			s.i = at
			s.add(lexer.Token{Kind: lexer.Text, Value: c}, next)
		}
		return
	case v == '<' && s.mode == lexer.Data:
		s.markup(rest)
		return
	case v == '<' && strings.HasPrefix(lower(rest), "</"+s.name):
		if behind := rest[2+len(s.name):]; behind != "" && strings.Contains(blanks+"/>", behind[:1]) {
			s.mode = lexer.Data
			s.markup(rest)
			return
		}
	}
	s.add(lexer.Token{Kind: lexer.Text, Value: v}, s.i+1)
}

func (s *slow) markup(rest string) {
	p := s.i
	bogus := func(code api.Code, from int) {
		s.bad(code, p)
		data, i := s.upTo(from, ">")
		s.add(lexer.Token{Kind: lexer.Comment, Data: data}, min(i+1, len(s.all)))
	}
	switch {
	case s.is(p+1, letters):
		s.tag(lexer.Open, p+1)
	case s.is(p+1, "/") && s.is(p+2, letters):
		s.tag(lexer.Close, p+2)
	case strings.HasPrefix(rest, "</>"):
		s.bad(api.MissingEndTagName, p)
		s.i += 3
	case rest == "</" || rest == "<":
		s.bad(api.EOFBeforeTagName, p)
		s.add(lexer.Token{Kind: lexer.Text, Value: '<'}, p+1)
		if rest == "</" {
			s.add(lexer.Token{Kind: lexer.Text, Value: '/'}, p+2)
		}
	case s.is(p+1, "/"):
		bogus(api.InvalidFirstCharacterOfTagName, p+2)
	case strings.HasPrefix(rest, "<!--"):
		s.comment(rest[4:])
	case strings.HasPrefix(lower(rest), "<!doctype"):
		s.doctype()
	case s.is(p+1, "!"):
		bogus(api.IncorrectlyOpenedComment, p+2)
	case s.is(p+1, "?"):
		bogus(api.UnexpectedQuestionMarkInsteadOfTagName, p+1)
	default:
		s.bad(api.InvalidFirstCharacterOfTagName, p)
		s.add(lexer.Token{Kind: lexer.Text, Value: '<'}, p+1)
	}
}

func (s *slow) comment(rest string) {
	var data, closing string
	right, odd := strings.Index(rest, "-->"), strings.Index(rest, "--!>")
	switch {
	case strings.HasPrefix(rest, ">"):
		closing = ">"
		s.bad(api.AbruptClosingOfEmptyComment, s.i)
	case strings.HasPrefix(rest, "->"):
		closing = "->"
		s.bad(api.AbruptClosingOfEmptyComment, s.i)
	case right < 0 && odd < 0:
		data = rest
		for _, tail := range []string{"--!", "--", "-"} {
			if strings.HasSuffix(data, tail) {
				data, closing = strings.TrimSuffix(data, tail), tail
				break
			}
		}
		s.bad(api.EOFInComment, s.i)
	case odd < 0 || right >= 0 && right < odd:
		data, closing = rest[:right], "-->"
	default:
		data, closing = rest[:odd], "--!>"
		s.bad(api.IncorrectlyClosedComment, s.i)
	}
	clean := ""
	i := s.i + 4
	for range []rune(data) {
		clean += s.clean(i)
		i++
	}
	s.add(lexer.Token{Kind: lexer.Comment, Data: clean}, i+len(closing))
}

func (s *slow) doctype() {
	p := s.i
	k := lexer.Token{Kind: lexer.Doctype}
	quirks := func(code api.Code, i int) {
		s.bad(code, p)
		k.Quirks = true
		s.add(k, i)
	}
	i := p + len("<!doctype")
	if i < len(s.all) && !s.is(i, blanks+">") {
		s.bad(api.MissingWhitespaceBeforeDoctypeName, p)
	}
	i = s.pass(i, blanks)
	if i == len(s.all) {
		quirks(api.EOFInDoctype, i)
		return
	}
	if s.is(i, ">") {
		quirks(api.MissingDoctypeName, i+1)
		return
	}
	k.Name, i = s.upTo(i, blanks+">")
	k.Name = lower(k.Name)
	i = s.pass(i, blanks)
	switch {
	case i == len(s.all):
		quirks(api.EOFInDoctype, i)
	case s.is(i, ">"):
		s.add(k, i+1)
	default:
		for i < len(s.all) && !s.is(i, ">") {
			i++
		}
		quirks(api.InvalidCharacterSequenceAfterDoctypeName, min(i+1, len(s.all)))
	}
}

func (s *slow) tag(kind, i int) {
	k := lexer.Token{Kind: kind}
	had := false
	k.Name, i = s.upTo(i, blanks+"/>")
	k.Name = lower(k.Name)
	for {
		i = s.pass(i, blanks)
		if i == len(s.all) {
			break
		}
		if s.is(i, ">") || s.is(i, "/") && s.is(i+1, ">") {
			k.Self = s.is(i, "/")
			i = s.pass(i, "/") + 1
			s.whole(k, had, i)
			return
		}
		if s.is(i, "/") {
			s.bad(api.UnexpectedSolidusInTag, i)
			i++
			continue
		}
		a, at, next, ok := s.attribute(i)
		i = next
		if !ok {
			break
		}
		had = true
		if slices.ContainsFunc(k.Attrs, func(b api.Attr) bool { return a.Name == b.Name }) {
			s.bad(api.DuplicateAttribute, at)
		} else {
			k.Attrs = append(k.Attrs, a)
		}
	}
	s.bad(api.EOFInTag, s.i)
	s.i = len(s.all)
}

func (s *slow) whole(k lexer.Token, had bool, i int) {
	if k.Kind == lexer.Close {
		if had {
			s.bad(api.EndTagWithAttributes, s.i)
		}
		if k.Self {
			s.bad(api.EndTagWithTrailingSolidus, s.i)
		}
		k.Attrs, k.Self = nil, false
	}
	s.add(k, i)
}

func (s *slow) attribute(at int) (a api.Attr, _, _ int, whole bool) {
	if s.is(at, "=") {
		s.bad(api.UnexpectedEqualsSignBeforeAttributeName, at)
	}
	first := s.clean(at)
	rest, i := s.upTo(at+1, blanks+"/>=")
	for n := at; n < i; n++ {
		if s.is(n, `"'<`) {
			s.bad(api.UnexpectedCharacterInAttributeName, n)
		}
	}
	a.Name = lower(first + rest)
	i = s.pass(i, blanks)
	if i == len(s.all) || !s.is(i, "=") {
		return a, at, i, i < len(s.all)
	}
	i = s.pass(i+1, blanks)
	if i == len(s.all) {
		return a, at, i, false
	}
	if s.is(i, ">") {
		s.bad(api.MissingAttributeValue, i)
		return a, at, i, true
	}
	ends, quoted := blanks+">", s.is(i, `"'`)
	if quoted {
		ends = string(rune(s.all[i].Value))
		i++
	}
	for i < len(s.all) && !s.is(i, ends) {
		if s.is(i, "&") {
			var scalars []int
			scalars, i = s.reference(i, true)
			for _, c := range scalars {
				a.Value += string(rune(c))
			}
			continue
		}
		if !quoted && s.is(i, "\"'<=`") {
			s.bad(api.UnexpectedCharacterInUnquotedAttributeValue, i)
		}
		a.Value += s.clean(i)
		i++
	}
	if i == len(s.all) {
		return a, at, i, false
	}
	if quoted {
		i++
		if i < len(s.all) && !s.is(i, blanks+"/>") {
			s.bad(api.MissingWhitespaceBetweenAttributes, i)
		}
	}
	return a, at, i, true
}

func (s *slow) reference(q int, value bool) ([]int, int) {
	text := []int{'&'}
	switch {
	case s.is(q+1, "#"):
		i, base, signs := q+2, 10, digits
		if s.is(i, "xX") {
			i, base, signs = i+1, 16, digits+"abcdefABCDEF"
		}
		end := s.pass(i, signs)
		if end == i {
			s.bad(api.AbsenceOfDigitsInNumericCharacterReference, q)
			return text, q + 1
		}
		n := 0
		for ; i < end; i++ {
			d := 0
			fmt.Sscanf(string(rune(s.all[i].Value)), "%x", &d)
			n = min(n*base+d, 0x110000)
		}
		if s.is(i, ";") {
			i++
		} else {
			s.bad(api.MissingSemicolonAfterCharacterReference, q)
		}
		c, code := charref.Number(n)
		if code != 0 {
			s.bad(code, q)
		}
		return []int{c}, i
	case s.is(q+1, letters+digits):
		name, scalars := charref.Longest(s.from(q + 1))
		i := q + 1 + len(name)
		if name == "" {
			if s.is(s.pass(q+1, letters+digits), ";") {
				s.bad(api.UnknownNamedCharacterReference, q)
			}
			return text, q + 1
		}
		if !strings.HasSuffix(name, ";") {
			if value && s.is(i, "="+letters+digits) {
				return text, q + 1
			}
			s.bad(api.MissingSemicolonAfterCharacterReference, q)
		}
		return scalars, i
	}
	return text, q + 1
}

// quick does the same by the lexer, with the text cut where cuts say, and as much asked for at each cut as there is.
func quick(text string, cuts []int, m modes) ([]lexer.Token, []api.Diag) {
	l := lexer.New()
	var tokens []lexer.Token
	var wrong []api.Diag
	ask := func() {
		for k, ok := l.Next(); ok; k, ok = l.Next() {
			tokens = append(tokens, k)
			l.Mode(m(k))
		}
		wrong = append(wrong, l.Wrong()...)
	}
	all := runes(text)
	from := 0
	for _, cut := range cuts {
		l.Put(all[from:cut])
		from = cut
		ask()
	}
	l.Put(all[from:])
	l.Close(len(text))
	ask()
	return tokens, wrong
}

// dataAlone: no token changes the mode.
func dataAlone() modes {
	return func(lexer.Token) (int, string) { return lexer.Data, "" }
}

// byTags: the mode of an Open lasts up to its Close.
func byTags() modes {
	mode, name := lexer.Data, ""
	return func(k lexer.Token) (int, string) {
		switch k.Kind {
		case lexer.Open:
			mode, name = lexer.Of(k.Name), k.Name
		case lexer.Close:
			mode, name = lexer.Data, ""
		}
		return mode, name
	}
}

// pieces of which hard documents are made.
func pieces() []string {
	return []string{
		"<", ">", "/", "=", "\"", "'", "`", "!", "-", "--", "?", "&", ";", "#", "x", "X", " ", "\n", "\f", "\t", "\r", "\x00",
		"a", "b", "B", "z", "1", "0", "9", "f", "é", "K", "\u212a", "😀", "\ufffd", "</", "<!", "<!--", "-->", "--!>", "<!doctype", "DOCTYPE",
		"html", "<a ", " b=", "b='", "b=\"", "&#", "&#x", "&amp", "&amp;", "&not", "in", "&notin;", "&acE;", "&copy", "&zz", "&zz;", "128", "D800",
		"<title>", "</title>", "</TITLE ", "<script>", "</script/>", "<plaintext>", "<textarea x>", "</textarea", "<b/>", "</b>", "/>",
	}
}

func document(r *rand.Rand, parts []string) string {
	var b strings.Builder
	for range r.Intn(14) {
		b.WriteString(parts[r.Intn(len(parts))])
	}
	return b.String()
}

func cutsOf(r *rand.Rand, n int) []int {
	var out []int
	for i := range n + 1 {
		if r.Intn(3) == 0 {
			out = append(out, i)
		}
	}
	return out
}

func checkAlike(t *testing.T, text string, cuts []int, m func() modes) {
	t.Helper()
	want, wantWrong := slowly(text, m())
	got, gotWrong := quick(text, cuts, m())
	if len(got) != len(want) {
		t.Fatalf("%q, cut at %v:\n got %s\nwant %s", text, cuts, show(got), show(want))
	}
	for i := range got {
		if !alike(got[i], want[i]) {
			t.Fatalf("%q, cut at %v, token %d:\n got %+v\nwant %+v", text, cuts, i, got[i], want[i])
		}
	}
	if a, b := showWrong(gotWrong), showWrong(wantWrong); !slices.Equal(inOrder(a), inOrder(b)) {
		t.Fatalf("%q, cut at %v, wrong:\n got %s\nwant %s", text, cuts, a, b)
	}
}

// alike: all of two tokens the same; no Attrs are no Attrs.
func alike(a, b lexer.Token) bool {
	if len(a.Attrs) == 0 && len(b.Attrs) == 0 {
		a.Attrs, b.Attrs = nil, nil
	}
	return reflect.DeepEqual(a, b)
}

// P5.1 to P5.5: the lexer tells what the chapter's words tell, however the scalars are Put.
func TestBesideSlow(t *testing.T) {
	r := rand.New(rand.NewSource(5))
	parts := pieces()
	for range 30000 {
		text := document(r, parts)
		checkAlike(t, text, cutsOf(r, len(runes(text))), dataAlone)
		checkAlike(t, text, cutsOf(r, len(runes(text))), byTags)
	}
}

// P5.1 to P5.5: all short documents of a few signs, whole and sign by sign.
func TestShortDocuments(t *testing.T) {
	for _, signs := range []string{"<a/> =", "<!->a\x00", "&#x1;=", "<a='\"& ", "</b>!?"} {
		eachText(signs, 5, func(text string) {
			checkAlike(t, text, nil, dataAlone)
			var each []int
			for i := range len(text) {
				each = append(each, i)
			}
			checkAlike(t, text, each, dataAlone)
		})
	}
	eachText("a&;=pm", 5, func(text string) {
		checkAlike(t, "<a b="+text+">", nil, dataAlone)
	})
	eachText("<!-> \x00d", 5, func(text string) {
		checkAlike(t, "<!doctype"+text, nil, dataAlone)
		checkAlike(t, "<!--"+text, nil, dataAlone)
	})
	eachText("b= '/<", 6, func(text string) {
		checkAlike(t, "<a "+text, nil, dataAlone)
		checkAlike(t, "<title></title "+text+">", nil, byTags)
	})
}

func eachText(signs string, most int, f func(string)) {
	var grow func(string)
	grow = func(text string) {
		f(text)
		if len(text) < most {
			for i := range len(signs) {
				grow(text + signs[i:i+1])
			}
		}
	}
	grow("")
}

// P5.1: long tokens that come sign by sign, in time that grows with them.
func TestLongTokensInParts(t *testing.T) {
	const long = 300000
	for _, c := range []struct{ head, part, tail string }{
		{"<!--", "-", "-->"}, {"<!--", ">", "-->"}, {"<a", "b", ">"}, {"<a b='", "&", "'>"}, {"<a b=", "c", ">"}, {"<a ", "/", ">"},
		{"&#", "0", ";"}, {"&z", "z", ";"}, {"<a b='&z", "z", ";'>"}, {"</ ", "x", ">"}, {"<!doctype x ", "y", ">"}, {"", "</>", "x"}, {"", "<", "x"},
	} {
		text := c.head + strings.Repeat(c.part, long) + c.tail
		l := lexer.New()
		n := 0
		for _, r := range runes(text) {
			l.Put([]api.Rune{r})
			for _, ok := l.Next(); ok; _, ok = l.Next() {
				n++
			}
			l.Mode(lexer.Data, "any")
		}
		l.Close(len(text))
		n += len(drain(l))
		whole, wrong := lexed(lexer.Data, "", text)
		if n != len(whole) || len(l.Wrong()) != len(wrong) {
			t.Errorf("%q: %d tokens, want %d", c.head, n, len(whole))
		}
	}
}
