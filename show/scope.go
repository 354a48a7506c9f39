package show

import (
	"slices"
	"strings"

	"sequitur/api"
	"sequitur/digit"
	"sequitur/token"
	"sequitur/tree"
)

// How loosely a part may hold together where it stands, at most, to need no parentheses.
// In between are the operators, each as loose as its table says.
const (
	tight    = 0
	anything = 5
)

// operator is how a part is written, and how loosely it holds together: of two operators the looser one has the greater number.
type operator struct {
	sign  string
	loose int
}

// termOperators are the operators of terms, by Op; other terms are tight.
var termOperators = [api.TMul + 1]operator{
	api.TAdd: {"+", 2},
	api.TSub: {"-", 2},
	api.TMul: {"*", 1},
	api.TNeg: {"-", tight},
}

// claimOperators are the operators of claims, by Op; other claims are tight.
var claimOperators = [api.CEx + 1]operator{
	api.CIff: {"<->", 4},
	api.CImp: {"->", 3},
	api.COr:  {"|", 2},
	api.CAnd: {"&", 1},
	api.CNot: {"~", tight},
	api.CEq:  {"=", tight},
	api.CLe:  {"<=", tight},
	api.CAll: {"!", tight},
	api.CEx:  {"?", tight},
}

// scope is what the text of a part depends on beside the part. It takes only what is right.
type scope struct {
	taken   []string // the names that the claim itself takes
	binders []string // the printed names of the binders around, the innermost last
}

// term returns the text of t where it may be so loose at most.
func (s scope) term(t api.Term, most int) string {
	o := termOperators[t.Op]
	switch t.Op {
	case api.TBound:
		return s.bound(t.Num)
	case api.TNum:
		return parenthesized(digit.Text(t.Num), t.Num < 0 && most < anything)
	case api.TAdd, api.TSub:
		text := s.term(t.Args[0], o.loose) + " " + o.sign + " " + s.term(t.Args[1], o.loose-1)
		return parenthesized(text, o.loose > most)
	case api.TNeg:
		return o.sign + s.negated(t.Args[0])
	case api.TMul:
		text := parenthesized(digit.Text(t.Num), t.Num < 0) + " " + o.sign + " " + s.term(t.Args[0], tight)
		return parenthesized(text, o.loose > most)
	}
	return s.applied(t.Name, t.Args)
}

// negated returns the text of t as the operand of a TNeg: the - of a bare number would be read as a part of it.
func (s scope) negated(t api.Term) string {
	if t.Op == api.TNum {
		return parenthesized(digit.Text(t.Num), true)
	}
	return s.term(t, tight)
}

// bound returns the text of a TBound with that Num.
func (s scope) bound(n int64) string {
	around := int64(len(s.binders))
	if n < around {
		return s.binders[around-1-n]
	}
	return "'" + digit.Text(n-around)
}

// applied returns the text of a function or a predicate of args.
func (s scope) applied(name string, args []api.Term) string {
	if len(args) == 0 {
		return name
	}
	texts := tree.Mapped(args, func(t api.Term) string { return s.term(t, anything) })
	return name + parenthesized(strings.Join(texts, ", "), true)
}

// claim returns the text of c where it may be so loose at most; followed tells whether something that does not belong to c comes behind it, which a binder at its end would take for its own.
func (s scope) claim(c api.Claim, most int, followed bool) string {
	o := claimOperators[c.Op]
	binder := c.Op == api.CAll || c.Op == api.CEx
	if o.loose > most || binder && followed {
		return parenthesized(s.claim(c, anything, false), true)
	}
	switch c.Op {
	case api.CTrue:
		return "true"
	case api.CFalse:
		return "false"
	case api.CPred:
		return s.applied(c.Name, c.Terms)
	case api.CEq, api.CLe:
		return s.term(c.Terms[0], anything) + " " + o.sign + " " + s.term(c.Terms[1], anything)
	case api.CNot:
		return o.sign + s.claim(c.Subs[0], tight, followed)
	case api.CAll, api.CEx:
		name := s.fresh(c.Name)
		inner := scope{s.taken, append(slices.Clip(s.binders), name)}
		return o.sign + Var(api.Var{Name: name, Sort: c.Sort}) + ". " + inner.claim(c.Subs[0], anything, false)
	}
	return s.claim(c.Subs[0], o.loose-1, true) + " " + o.sign + " " + s.claim(c.Subs[1], o.loose, followed)
}

// fresh returns the printed name of a binder with that Name.
func (s scope) fresh(name string) string {
	const other = "x"
	if !token.Name(name) || token.Word(name) {
		name = other
	}
	taken := slices.Concat(s.taken, s.binders)
	if printed := Fresh(name, taken); len(printed) <= api.MaxName {
		return printed
	}
	return Fresh(other, taken)
}

// names returns the Names of all TVar, TApp and CPred of c, increasing.
func names(c api.Claim) []string {
	var l []string
	for p := range tree.All(c, func(c api.Claim) []api.Claim { return c.Subs }) {
		if p.Op == api.CPred {
			l = append(l, p.Name)
		}
		for _, t := range p.Terms {
			l = append(l, termNames(t)...)
		}
	}
	slices.Sort(l)
	return slices.Compact(l)
}

// termNames returns the Names of all TVar and TApp of t.
func termNames(t api.Term) []string {
	var l []string
	for p := range tree.All(t, func(t api.Term) []api.Term { return t.Args }) {
		if p.Op == api.TVar || p.Op == api.TApp {
			l = append(l, p.Name)
		}
	}
	return l
}

func parenthesized(text string, when bool) string {
	if when {
		return "(" + text + ")"
	}
	return text
}
