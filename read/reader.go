package read

import (
	"slices"

	"sequitur/api"
	"sequitur/digit"
	"sequitur/token"
)

// The signs of more than one byte that the grammar has, as runes that are no bytes.
const (
	atMost  = '\u2264' // <=
	atLeast = '\u2265' // >=
	onlyIf  = '\u2192' // ->
	ifOnly  = '\u2194' // <->
)

// reader reads tokens from left to right.
// After the first error there is no next token for it: whatever is being read comes to an end, and does not count.
type reader struct {
	l       []api.Token
	at      int       // the position of the next token; after an error, where the error is
	err     api.Errno // the first error
	depth   int       // how many things are nested in one another around the next token
	binders []string  // the names of the binders around, the innermost last
}

// start returns a reader of the tokens from that position on.
func start(l []api.Token, at int) *reader {
	r := &reader{l: l, at: at}
	if at < 0 || at >= len(l) {
		r.fail(api.ErrEnd, len(l))
	}
	return r
}

// fail makes e the error, at that position, unless there was one before.
func (r *reader) fail(e api.Errno, at int) {
	if r.err == api.OK {
		r.err, r.at = e, at
	}
}

// refuse tells that the next token can't occur, or that there is none.
func (r *reader) refuse() {
	if r.at == len(r.l) {
		r.fail(api.ErrEnd, r.at)
	}
	r.fail(api.ErrForm, r.at)
}

// next returns the next token; if there is none, one of a Kind that can't occur anywhere.
func (r *reader) next() api.Token {
	if r.err != api.OK || r.at == len(r.l) {
		return api.Token{}
	}
	return r.l[r.at]
}

// sign returns the next token as a rune if it is a sign of the grammar: a single byte as itself.
// Any other token is 0, or a rune that the grammar does not have.
func (r *reader) sign() rune {
	t := r.next()
	if t.Kind != api.KSign || t.Text == "" {
		return 0
	}
	first, rest := rune(t.Text[0]), t.Text[1:]
	switch {
	case rest == "":
		return first
	case first == '<' && rest == "=":
		return atMost
	case first == '>' && rest == "=":
		return atLeast
	case first == '-' && rest == ">":
		return onlyIf
	case first == '<' && rest == "->":
		return ifOnly
	}
	return 0
}

// take reads that sign, if it comes next.
func (r *reader) take(sign rune) bool {
	if r.sign() != sign {
		return false
	}
	r.at++
	return true
}

// expect reads that sign, which has to come next.
func (r *reader) expect(sign rune) {
	if !r.take(sign) {
		r.refuse()
	}
}

// takeWord reads that word, if it comes next.
func (r *reader) takeWord(word string) bool {
	if t := r.next(); t.Kind != api.KName || t.Text != word {
		return false
	}
	r.at++
	return true
}

// name reads a NAME.
func (r *reader) name() string {
	t := r.next()
	if t.Kind != api.KName || token.Word(t.Text) {
		r.refuse()
		return ""
	}
	r.at++
	return t.Text
}

// sort reads what comes behind the NAME of a var.
func (r *reader) sort() api.Sort {
	r.expect(':')
	t := r.next()
	if t.Kind != api.KName {
		r.refuse()
		return ""
	}
	r.at++
	return t.Text
}

// number reads a NUMBER that comes next, with the minus that belongs to it.
func (r *reader) number(minus string) part {
	n, e := digit.Read(minus + r.next().Text)
	if e != api.OK {
		r.fail(e, r.at)
		return part{}
	}
	r.at++
	return part{term: api.Term{Op: api.TNum, Num: n}}
}

// nested reads by inner what the token that was read last makes nested.
func (r *reader) nested(inner level) part {
	if r.depth == api.MaxDepth {
		r.fail(api.ErrDeep, r.at-1)
		return part{}
	}
	r.depth++
	p := inner()
	r.depth--
	return p
}

// within reads by inner what lies within a binder of that name.
func (r *reader) within(name string, inner level) part {
	r.binders = append(r.binders, name)
	p := inner()
	r.binders = r.binders[:len(r.binders)-1]
	return p
}

// variable returns what a name alone stands for.
func (r *reader) variable(name string) api.Term {
	for i, b := range slices.Backward(r.binders) {
		if b == name {
			return api.Term{Op: api.TBound, Num: int64(len(r.binders) - 1 - i)}
		}
	}
	return api.Term{Op: api.TVar, Name: name}
}
