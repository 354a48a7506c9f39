package show

import (
	"regexp"
	"slices"
	"strconv"
	"strings"

	"sequitur/api"
)

// reader reads printed text by the grammar of the chapter, with nothing of the package in it.
// A name that no binder around has is a TVar, also where a TApp without Args was printed.
type reader struct {
	l       []string // what is still to be read
	binders []string // the names of the binders around, the innermost first
}

var lexeme = regexp.MustCompile(`'?[0-9]+|[A-Za-z_][A-Za-z0-9_']*|<->|->|<=|[(),.:+*~&|!?=-]`)

// lexemes are what s is made of; blanks stand in between at most.
func lexemes(s string) ([]string, bool) {
	return lexeme.FindAllString(s, -1), strings.Trim(lexeme.ReplaceAllString(s, ""), " ") == ""
}

// readTerm is the one term that s is.
func readTerm(s string) (api.Term, bool) { return readAll(s, (*reader).term) }

// readClaim is the one claim that s is, with the names of its binders.
func readClaim(s string) (api.Claim, bool) { return readAll(s, (*reader).claim) }

func readAll[T any](s string, part func(*reader) (T, bool)) (T, bool) {
	l, ok := lexemes(s)
	r := reader{l: l}
	x, read := part(&r)
	return x, ok && read && len(r.l) == 0
}

// attempt reads a part, or nothing.
func attempt[T any](r *reader, part func() (T, bool)) (T, bool) {
	before := *r
	x, ok := part()
	if !ok {
		*r = before
	}
	return x, ok
}

// takes reads the first of the signs that comes next, if one does.
func (r *reader) takes(signs ...string) string {
	if len(r.l) == 0 || !slices.Contains(signs, r.l[0]) {
		return ""
	}
	s := r.l[0]
	r.l = r.l[1:]
	return s
}

// lexeme reads what begins with one of the bytes.
func (r *reader) lexeme(first string) (string, bool) {
	if len(r.l) == 0 || !strings.Contains(first, r.l[0][:1]) {
		return "", false
	}
	s := r.l[0]
	r.l = r.l[1:]
	return s, true
}

func (r *reader) digits() (string, bool) { return r.lexeme("0123456789") }

func (r *reader) name() (string, bool) {
	s, ok := r.lexeme("ABCDEFGHIJKLMNOPQRSTUVWXYZabcdefghijklmnopqrstuvwxyz_")
	return s, ok && s != "true" && s != "false"
}

// inside reads a part in parentheses.
func inside[T any](r *reader, part func() (T, bool)) (T, bool) {
	if r.takes("(") == "" {
		var none T
		return none, false
	}
	x, ok := part()
	return x, ok && r.takes(")") != ""
}

// number reads digits, or - and digits.
func (r *reader) number() (int64, bool) {
	minus := r.takes("-")
	s, ok := r.digits()
	if !ok {
		return 0, false
	}
	n, e := strconv.ParseInt(minus+s, 10, 64)
	return n, e == nil && (s == "0" || s[0] != '0')
}

func (r *reader) numberInside() (int64, bool) { return inside(r, r.number) }

func (r *reader) applied() (string, []api.Term, bool) {
	name, ok := r.name()
	if !ok || r.takes("(") == "" {
		return name, nil, ok
	}
	var l []api.Term
	for {
		t, ok := r.term()
		if !ok {
			return "", nil, false
		}
		l = append(l, t)
		if r.takes(",") == "" {
			return name, l, r.takes(")") != ""
		}
	}
}

func (r *reader) factor() (api.Term, bool) {
	if n, ok := attempt(r, r.number); ok {
		return num(n), true
	}
	if s, ok := r.lexeme("'"); ok {
		n, e := strconv.Atoi(s[1:])
		return b(int64(n + len(r.binders))), e == nil
	}
	if r.takes("-") != "" {
		t, ok := r.factor()
		return neg(t), ok
	}
	if t, ok := attempt(r, func() (api.Term, bool) { return inside(r, r.term) }); ok {
		return t, true
	}
	name, l, ok := r.applied()
	if i := slices.Index(r.binders, name); i >= 0 && len(l) == 0 {
		return b(int64(i)), ok
	}
	if len(l) == 0 {
		return v(name), ok
	}
	return app(name, l...), ok
}

func (r *reader) product() (api.Term, bool) {
	for _, number := range []func() (int64, bool){r.number, r.numberInside} {
		times := func() (api.Term, bool) {
			n, ok := number()
			if !ok || r.takes("*") == "" {
				return api.Term{}, false
			}
			t, ok := r.factor()
			return mul(n, t), ok
		}
		if t, ok := attempt(r, times); ok {
			return t, true
		}
	}
	return r.factor()
}

func (r *reader) term() (api.Term, bool) {
	t, ok := r.product()
	for ok {
		sign := r.takes("+", "-")
		if sign == "" {
			break
		}
		var right api.Term
		right, ok = r.product()
		t = map[string]func(a, b api.Term) api.Term{"+": add, "-": sub}[sign](t, right)
	}
	return t, ok
}

func (r *reader) claim() (api.Claim, bool) { return r.binary(0) }

// binary reads a claim of the operators from that one on, the loosest first.
func (r *reader) binary(i int) (api.Claim, bool) {
	if i == 4 {
		return r.simple()
	}
	left, ok := r.binary(i + 1)
	if !ok || r.takes([]string{"<->", "->", "|", "&"}[i]) == "" {
		return left, ok
	}
	right, ok := r.binary(i)
	return made([]int{10, 9, 8, 7}[i], left, right), ok
}

func (r *reader) relation() (api.Claim, bool) {
	left, ok := r.term()
	sign := r.takes("=", "<=")
	if !ok || sign == "" {
		return api.Claim{}, false
	}
	right, ok := r.term()
	return map[string]func(a, b api.Term) api.Claim{"=": eq, "<=": le}[sign](left, right), ok
}

func (r *reader) simple() (api.Claim, bool) {
	switch r.takes("~", "true", "false") {
	case "~":
		c, ok := r.simple()
		return not(c), ok
	case "true":
		return truth(), true
	case "false":
		return falsity(), true
	}
	if sign := r.takes("!", "?"); sign != "" {
		return r.binder(map[string]int{"!": 11, "?": 12}[sign])
	}
	if c, ok := attempt(r, r.relation); ok {
		return c, true
	}
	if c, ok := attempt(r, func() (api.Claim, bool) { return inside(r, r.claim) }); ok {
		return c, true
	}
	name, l, ok := r.applied()
	return p(name, l...), ok && (len(l) > 0 || !slices.Contains(r.binders, name))
}

func (r *reader) binder(op int) (api.Claim, bool) {
	name, ok := r.name()
	if !ok || r.takes(":") == "" {
		return api.Claim{}, false
	}
	sort, ok := r.name()
	if !ok || r.takes(".") == "" {
		return api.Claim{}, false
	}
	outer := r.binders
	r.binders = append([]string{name}, outer...)
	c, ok := r.claim()
	r.binders = outer
	return api.Claim{Op: op, Name: name, Sort: sort, Subs: []api.Claim{c}}, ok
}
