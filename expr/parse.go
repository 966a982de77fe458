package expr

import "beadle/api"

const (
	textWord   = "#text"
	maxNesting = 16 // brackets in one another
)

// reader of an expression's text.
type reader struct {
	text string
	at   int
	deep int // brackets that are open
}

// Parse: the expression of a text; with an error the place.
func Parse(s string) (e Expr, at int, code api.Errno) {
	if len(s) > api.MaxExpr {
		return Expr{}, 0, api.ErrLong
	}
	defer func() {
		if w, ok := told(recover()); ok {
			e, at, code = Expr{}, w.at, w.code
		}
	}()
	r := &reader{text: s}
	e = r.alts() // and the blanks behind, as its last item has looked for a sign
	r.want(r.at == len(s))
	return e, 0, api.OK
}

func (r *reader) alts() Expr {
	return r.level(Alt, '|', r.alls)
}

func (r *reader) alls() Expr {
	return r.level(All, '&', r.seqs)
}

// level: parts with a sign between.
func (r *reader) level(kind int, between byte, part func() Expr) Expr {
	kids := []Expr{part()}
	for r.sign() == between {
		r.at++
		kids = append(kids, part())
	}
	return joined(kind, kids)
}

func (r *reader) seqs() Expr {
	kids := []Expr{r.item()}
	for begins(r.sign()) {
		kids = append(kids, r.item())
	}
	return joined(Seq, kids)
}

func (r *reader) item() Expr {
	e := r.atom()
	for {
		kind := times(r.sign())
		if kind == Empty {
			return e
		}
		r.at++
		e = Expr{Kind: kind, Kids: []Expr{e}}
	}
}

func (r *reader) atom() Expr {
	switch r.sign() {
	case '(':
		return r.brackets()
	case '#':
		r.textWord()
		return Expr{Kind: Text}
	case '@':
		r.at++
		return Expr{Kind: Category, Word: r.word()}
	}
	return Expr{Kind: Name, Word: r.word()}
}

func (r *reader) brackets() Expr {
	if r.deep == maxNesting {
		panic(wrong{r.at, api.ErrNest})
	}
	r.at++
	if r.sign() == ')' {
		r.at++
		return Expr{Kind: Empty}
	}
	r.deep++
	e := r.alts()
	r.want(r.sign() == ')')
	r.deep--
	r.at++
	return e
}

func (r *reader) textWord() {
	for i := range len(textWord) {
		r.want(r.at < len(r.text) && r.text[r.at] == textWord[i])
		r.at++
	}
}

// word: its first byte must be at the place where the reader is, as no blank may stand ahead of it there.
func (r *reader) word() string {
	from := r.at
	for r.at < len(r.text) && inWord(r.text[r.at]) {
		r.at++
	}
	r.want(r.at > from)
	return r.text[from:r.at]
}

// sign: the next byte that is no blank, not yet read; 0 at the end, which stands for nothing in an expression.
func (r *reader) sign() byte {
	for r.at < len(r.text) && r.text[r.at] == ' ' {
		r.at++
	}
	if r.at == len(r.text) {
		return 0
	}
	return r.text[r.at]
}

func (r *reader) want(holds bool) {
	if !holds {
		panic(wrong{r.at, api.ErrForm})
	}
}

// joined: one part alone is that part.
func joined(kind int, kids []Expr) Expr {
	if len(kids) == 1 {
		return kids[0]
	}
	return Expr{Kind: kind, Kids: kids}
}

// times: the kind that a sign behind an atom stands for; Empty of all other signs.
func times(sign byte) int {
	switch sign {
	case '*':
		return Star
	case '+':
		return Plus
	case '?':
		return Maybe
	}
	return Empty
}

// begins: may an atom begin so?
func begins(sign byte) bool {
	return sign == '(' || sign == '#' || sign == '@' || inWord(sign)
}

func inWord(b byte) bool {
	return 'a' <= b && b <= 'z' || '0' <= b && b <= '9' || b == '-'
}
