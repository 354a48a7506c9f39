package read

import "sequitur/api"

// part is what was read: a term or a claim; after an error it may be neither.
type part struct {
	term  api.Term
	claim api.Claim
}

// isTerm tells whether p was read as a term, be it one that may also be a claim.
func (p part) isTerm() bool { return p.term.Op != 0 }

// atom returns p as a claim; of terms, a name and a function may be one.
func (p part) atom() (api.Claim, bool) {
	switch {
	case p.claim.Op != 0:
		return p.claim, true
	case p.term.Op == api.TVar || p.term.Op == api.TApp:
		return api.Claim{Op: api.CPred, Name: p.term.Name, Terms: p.term.Args}, true
	}
	return api.Claim{}, false
}

// level reads what a level of the grammar allows. A level of claims leaves a sum alone as a term: whether that is one in parentheses, or a claim, or an error, tells what comes behind it.
type level func() part

// connective is a sign that joins two claims.
type connective struct {
	sign rune
	op   int
}

// connectives are the signs that join claims, the tightest first.
var connectives = [4]connective{{'&', api.CAnd}, {'|', api.COr}, {onlyIf, api.CImp}, {ifOnly, api.CIff}}

// claim reads a claim, or a sum alone.
func (r *reader) claim() part {
	// Parentheses at the beginning may be those of a claim or of a factor.
	factor := func() part { return r.factor(r.claim) }
	product := func() part { return r.product(factor) }
	sum := func() part { return r.sum(product) }
	relation := func() part { return r.relation(sum) }
	whole := func() part { return r.simple(relation) }
	for _, c := range connectives {
		whole = r.joined(c, whole)
	}
	return whole()
}

// stated returns p as a claim; if it can't be one, the next token comes too early.
func (r *reader) stated(p part) api.Claim {
	c, ok := p.atom()
	if !ok {
		r.refuse()
	}
	return c
}

// nestedClaim is nested for a claim.
func (r *reader) nestedClaim(inner level) api.Claim {
	return r.nested(func() part { return part{claim: r.stated(inner())} }).claim
}

// joined returns the level of claims that are joined by c from the right.
func (r *reader) joined(c connective, tighter level) level {
	var whole level
	whole = func() part {
		left := tighter()
		first, ok := left.atom()
		if !ok || !r.take(c.sign) {
			return left
		}
		second := r.nestedClaim(whole)
		return part{claim: api.Claim{Op: c.op, Subs: []api.Claim{first, second}}}
	}
	return whole
}

// simple reads a claim that no sign joins.
func (r *reader) simple(relation level) part {
	switch {
	case r.takeWord("true"):
		return part{claim: api.Claim{Op: api.CTrue}}
	case r.takeWord("false"):
		return part{claim: api.Claim{Op: api.CFalse}}
	case r.take('~'):
		denied := r.nestedClaim(func() part { return r.simple(relation) })
		return part{claim: api.Claim{Op: api.CNot, Subs: []api.Claim{denied}}}
	case r.take('!'):
		return r.binder(api.CAll)
	case r.take('?'):
		return r.binder(api.CEx)
	}
	return relation()
}

// binder reads the vars and the claim of a binder.
func (r *reader) binder(op int) part {
	name := r.name()
	return r.nested(func() part {
		sort := r.sort()
		body := r.within(name, func() part {
			if r.take(',') {
				return r.binder(op)
			}
			r.expect('.')
			return part{claim: r.stated(r.claim())}
		})
		return part{claim: api.Claim{Op: op, Name: name, Sort: sort, Subs: []api.Claim{body.claim}}}
	})
}

// relation reads a sum, and what is stated of it, if anything is.
func (r *reader) relation(sum level) part {
	left := sum()
	if !left.isTerm() {
		return left
	}
	sign := r.sign()
	switch sign {
	case '=', '<', '>', atMost, atLeast:
		r.at++
		return part{claim: related(sign, left.term, r.term().term)}
	}
	return left
}

// related returns what the sign states of a and b.
func related(sign rune, a, b api.Term) api.Claim {
	op := api.CLe
	switch sign {
	case '=':
		op = api.CEq
	case '<':
		a = plusOne(a)
	case '>':
		a, b = plusOne(b), a
	case atLeast:
		a, b = b, a
	}
	return api.Claim{Op: op, Terms: []api.Term{a, b}}
}

func plusOne(t api.Term) api.Term {
	return api.Term{Op: api.TAdd, Args: []api.Term{t, {Op: api.TNum, Num: 1}}}
}

// term reads a sum where no claim can stand.
func (r *reader) term() part { return r.sum(r.termProduct) }

func (r *reader) termProduct() part { return r.product(r.termFactor) }

func (r *reader) termFactor() part { return r.factor(r.term) }

// sum reads products with + and - between them, unless the first one turns out to be a claim in parentheses.
func (r *reader) sum(product level) part {
	left := product()
	for left.isTerm() {
		op := 0
		switch {
		case r.take('+'):
			op = api.TAdd
		case r.take('-'):
			op = api.TSub
		default:
			return left
		}
		right := r.termProduct().term
		left = part{term: api.Term{Op: op, Args: []api.Term{left.term, right}}}
	}
	return left
}

// product reads a factor, or two with * between them, unless the first one turns out to be a claim in parentheses.
func (r *reader) product(factor level) part {
	left := factor()
	at := r.at
	if !left.isTerm() || !r.take('*') {
		return left
	}
	number, other := left.term, r.termFactor().term
	if number.Op != api.TNum {
		number, other = other, number
	}
	if number.Op != api.TNum {
		r.fail(api.ErrForm, at)
	}
	return part{term: api.Term{Op: api.TMul, Num: number.Num, Args: []api.Term{other}}}
}

// factor reads a factor; parenthesized reads what its own parentheses may hold.
func (r *reader) factor(parenthesized level) part {
	switch {
	case r.next().Kind == api.KNum:
		return r.number("")
	case r.take('-'):
		return r.negative()
	case r.take('('):
		p := r.nested(parenthesized)
		r.expect(')')
		return p
	}
	name := r.name()
	if r.take('(') {
		return r.nested(func() part { return r.applied(name) })
	}
	return part{term: r.variable(name)}
}

// negative reads what comes behind a - with which a factor begins.
func (r *reader) negative() part {
	if r.next().Kind == api.KNum {
		return r.number("-")
	}
	operand := r.nested(r.termFactor).term
	return part{term: api.Term{Op: api.TNeg, Args: []api.Term{operand}}}
}

// applied reads the Args of a function, and the parenthesis behind them.
func (r *reader) applied(name string) part {
	l := []api.Term{r.term().term}
	for r.take(',') {
		l = append(l, r.term().term)
	}
	r.expect(')')
	return part{term: api.Term{Op: api.TApp, Name: name, Args: l}}
}
