package sample

import (
	"slices"

	"sequitur/api"
)

// EqualTerms tells whether a and b are the same in everything; an empty list may be nil.
func EqualTerms(a, b api.Term) bool {
	return a.Op == b.Op && a.Name == b.Name && a.Num == b.Num && slices.EqualFunc(a.Args, b.Args, EqualTerms)
}

// EqualClaims tells whether a and b are the same in everything, the names of binders too; an empty list may be nil.
func EqualClaims(a, b api.Claim) bool {
	return a.Op == b.Op && a.Name == b.Name && a.Sort == b.Sort && slices.EqualFunc(a.Terms, b.Terms, EqualTerms) && slices.EqualFunc(a.Subs, b.Subs, EqualClaims)
}

// EqualPairs tells whether a and b are the same in everything; an empty list may be nil.
func EqualPairs(a, b []api.Pair) bool {
	return slices.EqualFunc(a, b, func(p, q api.Pair) bool { return p.Name == q.Name && EqualTerms(p.Term, q.Term) })
}

// TwinTerm is t in new memory, nil where t is nil.
func TwinTerm(t api.Term) api.Term {
	t.Args = twins(t.Args, TwinTerm)
	return t
}

// TwinClaim is c in new memory, nil where c is nil.
func TwinClaim(c api.Claim) api.Claim {
	c.Terms = twins(c.Terms, TwinTerm)
	c.Subs = twins(c.Subs, TwinClaim)
	return c
}

// TwinPairs is l in new memory, nil where l is nil.
func TwinPairs(l []api.Pair) []api.Pair {
	return twins(l, func(p api.Pair) api.Pair { return Pair(p.Name, TwinTerm(p.Term)) })
}

// twins are what twin makes of the elements of l, in new memory, nil where l is nil.
func twins[S, T any](l []S, twin func(S) T) []T {
	if l == nil {
		return nil
	}
	r := make([]T, len(l))
	for i, x := range l {
		r[i] = twin(x)
	}
	return r
}

// twinElements is l, of elements without lists, in new memory, nil where l is nil.
func twinElements[T any](l []T) []T {
	return twins(l, func(x T) T { return x })
}

// Changed calls f and tells what became of the first claim of l that f changed, be it from nil to an empty list; nothing if f changed none.
func Changed(f func(), l ...api.Claim) string {
	return Claims(l...).Changed(f)
}

// difference tells what became of the first element that is not the same before and after, nothing if all are.
func difference[T any](before, after []T, same func(a, b T) bool, text func(T) string) string {
	for i := range before {
		if !same(before[i], after[i]) {
			return text(before[i]) + " became " + text(after[i])
		}
	}
	return ""
}

func identicalTerms(a, b api.Term) bool {
	return a.Op == b.Op && a.Name == b.Name && a.Num == b.Num && identical(a.Args, b.Args, identicalTerms)
}

func identicalClaims(a, b api.Claim) bool {
	return a.Op == b.Op && a.Name == b.Name && a.Sort == b.Sort && identical(a.Terms, b.Terms, identicalTerms) && identical(a.Subs, b.Subs, identicalClaims)
}

func identicalPairs(a, b []api.Pair) bool {
	return identical(a, b, func(p, q api.Pair) bool { return p.Name == q.Name && identicalTerms(p.Term, q.Term) })
}

func identical[T any](a, b []T, same func(a, b T) bool) bool {
	return (a == nil) == (b == nil) && slices.EqualFunc(a, b, same)
}

func identicalElements[T comparable](a, b []T) bool {
	return identical(a, b, func(x, y T) bool { return x == y })
}

// Shares tells whether a list within answer shares memory with another one within it or within the arguments, be it behind its end.
func Shares(answer api.Claim, arguments ...api.Claim) bool {
	return Data{Claims: []api.Claim{answer}}.Shares(Data{Claims: arguments})
}

// memory are places that are taken, and whether one of them was taken twice.
type memory struct {
	terms   map[*api.Term]bool
	claims  map[*api.Claim]bool
	pairs   map[*api.Pair]bool
	funs    map[*api.Fun]bool
	vars    map[*api.Var]bool
	names   map[*string]bool
	numbers map[*int]bool
	values  map[*bool]bool
	clauses map[*[]int]bool
	twice   bool
}

// note takes the places of the lists within c.
func (m *memory) note(c api.Claim) {
	m.noteTerms(c.Terms)
	m.noteClaims(c.Subs)
}

func (m *memory) noteTerms(l []api.Term) {
	m.twice = taken(m.terms, l) || m.twice
	for _, t := range l {
		m.noteTerms(t.Args)
	}
}

func (m *memory) noteClaims(l []api.Claim) {
	m.twice = taken(m.claims, l) || m.twice
	for _, c := range l {
		m.note(c)
	}
}

func (m *memory) notePairs(l []api.Pair) {
	m.twice = taken(m.pairs, l) || m.twice
	for _, p := range l {
		m.noteTerms(p.Term.Args)
	}
}

func (m *memory) noteSign(s api.Sign) {
	m.twice = taken(m.names, s.Sorts) || m.twice
	m.twice = taken(m.funs, s.Funs) || m.twice
	for _, f := range s.Funs {
		m.twice = taken(m.names, f.Args) || m.twice
	}
}

func (m *memory) noteSet(c api.Cnf) {
	m.twice = taken(m.clauses, c.L) || m.twice
	for _, l := range c.L {
		m.twice = taken(m.numbers, l) || m.twice
	}
}

// taken takes the places of l, those behind its end too, and tells whether one of them was taken already.
func taken[T any](places map[*T]bool, l []T) bool {
	twice := false
	whole := l[:cap(l)]
	for i := range whole {
		twice = twice || places[&whole[i]]
		places[&whole[i]] = true
	}
	return twice
}

// SpoilTerm changes all parts of t but t itself.
func SpoilTerm(t api.Term) {
	for i := range t.Args {
		SpoilTerm(t.Args[i])
		t.Args[i] = Num(99)
	}
}

// SpoilClaim changes all parts of c but c itself, and all its terms.
func SpoilClaim(c api.Claim) {
	for i := range c.Terms {
		SpoilTerm(c.Terms[i])
		c.Terms[i] = Num(99)
	}
	for i := range c.Subs {
		SpoilClaim(c.Subs[i])
		c.Subs[i] = Pred("spoilt")
	}
}

// SpoilPairs changes all pairs of l, all parts of their terms, and what is free behind l.
func SpoilPairs(l []api.Pair) {
	for _, p := range l {
		SpoilTerm(p.Term)
	}
	fill(l, Pair("spoilt", Num(99)))
}

// fill puts x in place of each element of l, and of those behind its end.
func fill[T any](l []T, x T) {
	whole := l[:cap(l)]
	for i := range whole {
		whole[i] = x
	}
}

// Roomy is l in memory of its own with room behind it, in which x stands.
func Roomy[T any](l []T, x T) []T { return append(slices.Clone(l), x, x, x)[:len(l)] }
