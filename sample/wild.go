package sample

import "sequitur/api"

// Wild makes right terms and claims of any shape, well sorted or not, of names, sorts and numbers that Pick picks.
type Wild struct {
	Pick   func(n int) int // a number below n
	Vars   []string
	Funs   []string // names of predicates, too
	Sorts  []api.Sort
	Nums   []int64
	Bounds int // how many bound numbers there are, from 0 on
}

// Sort is one of the sorts.
func (w Wild) Sort() api.Sort { return one(w.Pick, w.Sorts) }

// Var is one of the names of variables.
func (w Wild) Var() string { return one(w.Pick, w.Vars) }

// Fun is one of the names of functions.
func (w Wild) Fun() string { return one(w.Pick, w.Funs) }

// Term is a term of a depth of at most depth + 1.
func (w Wild) Term(depth int) api.Term {
	ops := 8
	if depth == 0 {
		ops = 4
	}
	switch op := 1 + w.Pick(ops); op {
	case api.TVar:
		return Var(w.Var())
	case api.TBound:
		return Bound(int64(w.Pick(w.Bounds)))
	case api.TNum:
		return Num(one(w.Pick, w.Nums))
	case api.TAdd, api.TSub:
		return api.Term{Op: op, Args: w.terms(2, depth-1)}
	case api.TNeg:
		return Neg(w.Term(depth - 1))
	case api.TMul:
		return Mul(one(w.Pick, w.Nums), w.Term(depth-1))
	}
	return App(w.Fun(), w.terms(min(w.Pick(3), depth), depth-1)...)
}

// Claim is a claim of a depth of at most depth + 1, of terms of a depth of at most 2.
func (w Wild) Claim(depth int) api.Claim {
	switch op := api.CPred + w.Pick(api.CEx-api.CPred+1); {
	case depth == 0 && op > api.CLe, op == api.CPred:
		return Pred(w.Fun(), w.terms(w.Pick(3), 1)...)
	case op == api.CEq || op == api.CLe:
		return api.Claim{Op: op, Terms: w.terms(2, 1)}
	case op == api.CNot:
		return Not(w.Claim(depth - 1))
	case op < api.CAll:
		return Made(op, w.Claim(depth-1), w.Claim(depth-1))
	default:
		return api.Claim{Op: op, Name: w.Var(), Sort: w.Sort(), Subs: []api.Claim{w.Claim(depth - 1)}}
	}
}

func (w Wild) terms(n, depth int) []api.Term {
	var l []api.Term
	for range n {
		l = append(l, w.Term(depth))
	}
	return l
}

func one[T any](pick func(n int) int, l []T) T { return l[pick(len(l))] }
