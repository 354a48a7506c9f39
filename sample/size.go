package sample

import "sequitur/api"

// Nested is x within n wraps.
func Nested[T any](n int, x T, wrap func(T) T) T {
	for range n {
		x = wrap(x)
	}
	return x
}

// Chain is f(f(.. t)), n times.
func Chain(n int, t api.Term) api.Term {
	return Nested(n, t, func(t api.Term) api.Term { return App("f", t) })
}

// Nots is not not .. c, n times.
func Nots(n int, c api.Claim) api.Claim { return Nested(n, c, Not) }

// SizedTerm is a right part by part term with n parts, as flat as functions of eight arguments let it be.
func SizedTerm(n int) api.Term {
	if n == 1 {
		return Var("x")
	}
	return App("f", sizedTerms(n-1)...)
}

// SizedClaim is a right part by part claim with n parts and no terms, as flat as it can be.
func SizedClaim(n int) api.Claim {
	switch n {
	case 1:
		return True()
	case 2:
		return Not(False())
	}
	return And(SizedClaim((n-1)/2), SizedClaim(n-1-(n-1)/2))
}

// Heavy is a claim of one part with the size n.
func Heavy(n int) api.Claim { return Pred("p", sizedTerms(n-1)...) }

// sizedTerms are at most eight terms with n parts together.
func sizedTerms(n int) []api.Term {
	var l []api.Term
	for left := min(8, n); left > 0; left-- {
		m := (n + left - 1) / left
		l = append(l, SizedTerm(m))
		n -= m
	}
	return l
}
