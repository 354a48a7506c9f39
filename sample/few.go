package sample

import (
	"slices"

	"sequitur/api"
)

// Within is c within n binders of both kinds, whose names are those of variables too.
func Within(n int, c api.Claim) api.Claim {
	for i := range n {
		c = []func(string, string, api.Claim) api.Claim{All, Ex}[i%2]([]string{"x", "y", "u"}[i%3], "A", c)
	}
	return c
}

// Renamed is c with other names of binders, those of the first level ahead of those within it; after the last name comes the first one again.
func Renamed(c api.Claim, names ...string) api.Claim {
	if c.Op == api.CAll || c.Op == api.CEx {
		c.Name = names[0]
		names = append(slices.Clone(names[1:]), names[0])
	}
	c.Subs = twins(c.Subs, func(s api.Claim) api.Claim { return Renamed(s, names...) })
	return c
}

// TermsOf are the terms of all parts of c in preorder, each as often as it stands there.
func TermsOf(c api.Claim) []api.Term {
	l := slices.Clone(c.Terms)
	for _, s := range c.Subs {
		l = append(l, TermsOf(s)...)
	}
	return l
}

// Hulls put a term into the Args of a part with each Op, right and wrong ones, among others or alone.
func Hulls() []func(api.Term) api.Term {
	l := RightHulls()
	for _, op := range []int{-2, -1, 0, 1, 2, 3, 4, 5, 6, 7, 8, 9, 1<<32 + 1, 1<<32 + 2} {
		l = append(l, func(t api.Term) api.Term { return api.Term{Op: op, Name: "h", Num: -1, Args: []api.Term{t}} })
	}
	return append(l, func(t api.Term) api.Term { return WithArgs(Var("h"), t, Num(1), t) })
}

// RightHulls put a term into the Args of right parts, right if the term is.
func RightHulls() []func(api.Term) api.Term {
	return []func(api.Term) api.Term{
		func(t api.Term) api.Term { return App("f", t) },
		func(t api.Term) api.Term { return App("g", Var("h"), t, Num(2)) },
		func(t api.Term) api.Term { return Add(t, Num(1)) },
		func(t api.Term) api.Term { return Sub(Num(1), t) },
		Neg,
		func(t api.Term) api.Term { return Mul(3, t) },
		func(t api.Term) api.Term { return App("f", Neg(Add(t, t))) },
	}
}

// WrongTerms has a term with each error, none of them with a bound number.
func WrongTerms() map[api.Errno]api.Term {
	return map[api.Errno]api.Term{
		api.ErrDeep:  Chain(64, Var("x")),
		api.ErrLong:  SizedTerm(4097),
		api.ErrForm:  App("f", api.Term{}),
		api.ErrArity: WithArgs(Var("x"), Var("y")),
	}
}

// Substitutions are all lists of at most n pairs of the names and the terms, right and wrong ones.
func Substitutions(n int, names []string, terms []api.Term) [][]api.Pair {
	var pairs []api.Pair
	for _, name := range names {
		for _, t := range terms {
			pairs = append(pairs, Pair(name, t))
		}
	}
	return Choices(n, pairs...)
}

// Scattered returns numbers below n by a fixed rule, others for each seed but 0.
func Scattered(seed uint64) func(n int) int {
	x := seed
	return func(n int) int {
		x ^= x << 13
		x ^= x >> 7
		x ^= x << 17
		return int(x>>11) % n
	}
}

// Fillings put terms in place of none, some or all of the variables, in every way in which a variable gets one of the terms of its sort.
func Fillings(vars []api.Var, terms map[api.Sort][]api.Term) [][]api.Pair {
	all := [][]api.Pair{nil}
	for _, v := range vars {
		for _, l := range slices.Clone(all) {
			for _, t := range terms[v.Sort] {
				all = append(all, append(slices.Clip(l), Pair(v.Name, t)))
			}
		}
	}
	return all
}

// Rare are the errors that were found less often than that.
func Rare(found map[api.Errno]int, least int, errors ...api.Errno) []api.Errno {
	return slices.DeleteFunc(slices.Clone(errors), func(e api.Errno) bool { return found[e] >= least })
}
