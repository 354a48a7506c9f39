// Package sample is no layer but what the tests of the layers share: terms, claims and substitutions in few words, of every kind and any size, as texts, and in memory of their own.
package sample

import (
	"slices"

	"sequitur/api"
)

// Var is a variable.
func Var(name string) api.Term { return api.Term{Op: api.TVar, Name: name} }

// Vars are n variables of that name.
func Vars(n int, name string) []api.Term { return slices.Repeat([]api.Term{Var(name)}, n) }

// Bound is a bound number, or a loose one.
func Bound(n int64) api.Term { return api.Term{Op: api.TBound, Num: n} }

// App is a function of args.
func App(name string, args ...api.Term) api.Term {
	return api.Term{Op: api.TApp, Name: name, Args: args}
}

// Num is a number.
func Num(n int64) api.Term { return api.Term{Op: api.TNum, Num: n} }

// Add is a + b.
func Add(a, b api.Term) api.Term { return api.Term{Op: api.TAdd, Args: []api.Term{a, b}} }

// Sub is a - b.
func Sub(a, b api.Term) api.Term { return api.Term{Op: api.TSub, Args: []api.Term{a, b}} }

// Neg is - a.
func Neg(a api.Term) api.Term { return api.Term{Op: api.TNeg, Args: []api.Term{a}} }

// Mul is n * a.
func Mul(n int64, a api.Term) api.Term {
	return api.Term{Op: api.TMul, Num: n, Args: []api.Term{a}}
}

// WithArgs is t with other Args.
func WithArgs(t api.Term, args ...api.Term) api.Term {
	t.Args = args
	return t
}

// True is the claim that always holds.
func True() api.Claim { return api.Claim{Op: api.CTrue} }

// False is the claim that never holds.
func False() api.Claim { return api.Claim{Op: api.CFalse} }

// Pred is a predicate of terms.
func Pred(name string, terms ...api.Term) api.Claim {
	return api.Claim{Op: api.CPred, Name: name, Terms: terms}
}

// Eq is a = b.
func Eq(a, b api.Term) api.Claim { return api.Claim{Op: api.CEq, Terms: []api.Term{a, b}} }

// Le is a <= b.
func Le(a, b api.Term) api.Claim { return api.Claim{Op: api.CLe, Terms: []api.Term{a, b}} }

// Made is a claim of that Op with subs and nothing else.
func Made(op int, subs ...api.Claim) api.Claim { return api.Claim{Op: op, Subs: subs} }

// Not denies c.
func Not(c api.Claim) api.Claim { return Made(api.CNot, c) }

// And is a and b.
func And(a, b api.Claim) api.Claim { return Made(api.CAnd, a, b) }

// Or is a or b.
func Or(a, b api.Claim) api.Claim { return Made(api.COr, a, b) }

// Imp is b if a.
func Imp(a, b api.Claim) api.Claim { return Made(api.CImp, a, b) }

// Iff is both or neither of a and b.
func Iff(a, b api.Claim) api.Claim { return Made(api.CIff, a, b) }

// All is c for every one of that sort; the loose number 0 of c stands for it.
func All(name, sort string, c api.Claim) api.Claim {
	return api.Claim{Op: api.CAll, Name: name, Sort: sort, Subs: []api.Claim{c}}
}

// Ex is c for one of that sort; the loose number 0 of c stands for it.
func Ex(name, sort string, c api.Claim) api.Claim {
	return api.Claim{Op: api.CEx, Name: name, Sort: sort, Subs: []api.Claim{c}}
}

// WithTerms is c with other Terms.
func WithTerms(c api.Claim, terms ...api.Term) api.Claim {
	c.Terms = terms
	return c
}

// WithSubs is c with other Subs.
func WithSubs(c api.Claim, subs ...api.Claim) api.Claim {
	c.Subs = subs
	return c
}

// Pair is a name, and what stands for it.
func Pair(name string, t api.Term) api.Pair { return api.Pair{Name: name, Term: t} }
