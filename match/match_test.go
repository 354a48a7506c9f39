package match

import (
	"cmp"
	"math"
	"slices"
	"strconv"
	"strings"
	"testing"

	"sequitur/api"
	"sequitur/bind"
	"sequitur/claim"
	"sequitur/sample"
	"sequitur/subst"
	"sequitur/term"
)

// Short names for what the tests are full of.
var (
	v, num, app, b             = sample.Var, sample.Num, sample.App, sample.Bound
	add, sub, neg, mul         = sample.Add, sample.Sub, sample.Neg, sample.Mul
	p, eq, le, made            = sample.Pred, sample.Eq, sample.Le, sample.Made
	not, and, or, imp          = sample.Not, sample.And, sample.Or, sample.Imp
	iff, forAll, exists        = sample.Iff, sample.All, sample.Ex
	withArgs, withTerms        = sample.WithArgs, sample.WithTerms
	text, termText, listText   = sample.ClaimText, sample.TermText, sample.PairsText
	asLists, asClaims, asTerms = sample.Lists, sample.Claims, sample.Terms
	to, chain, sized, within   = sample.Pair, sample.Chain, sample.SizedTerm, sample.Within
	hulls, rightHulls          = sample.Hulls, sample.RightHulls
	wrongTerms, listsOf        = sample.WrongTerms, sample.Substitutions
	renamed, termsOf           = sample.Renamed, sample.TermsOf
)

type list = []api.Pair

const greatest = math.MaxInt64

// Names that patterns have.
func justX() []string { return []string{"x"} }
func xAndY() []string { return []string{"x", "y"} }

func f(l ...api.Term) api.Term { return app("f", l...) }
func g(l ...api.Term) api.Term { return app("g", l...) }

// What the chapter says, word by word, with nothing of the package in it: all substitutions are tried.

// variables are the names of vars that are a variable of one of the patterns; what a variable has for Args is ignored.
func variables(vars []string, patterns ...api.Term) []string {
	var names []string
	for _, t := range patterns {
		if t.Op == 1 && slices.Contains(vars, t.Name) {
			names = append(names, t.Name)
		} else {
			names = append(names, variables(vars, t.Args...)...)
		}
	}
	slices.Sort(names)
	return slices.Compact(names)
}

func hasBoundPart(t api.Term) bool {
	return t.Op == 2 || slices.ContainsFunc(t.Args, hasBoundPart)
}

// replacing are the parts of the terms that may replace a variable.
func replacing(l ...api.Term) []api.Term {
	var parts []api.Term
	for _, t := range l {
		for _, part := range term.Parts(t) {
			if term.Right(part) == 0 && !hasBoundPart(part) && !slices.ContainsFunc(parts, func(q api.Term) bool { return term.Same(part, q) }) {
				parts = append(parts, part)
			}
		}
	}
	return parts
}

// only is the substitution of the names by such terms for which holds; there may be none, but no two.
func only(t *testing.T, names []string, terms []api.Term, holds func(l list) bool) (list, bool) {
	t.Helper()
	all := []list{nil}
	for _, name := range names {
		var longer []list
		for _, l := range all {
			for _, x := range terms {
				longer = append(longer, append(slices.Clip(l), to(name, x)))
			}
		}
		all = longer
	}
	all = slices.DeleteFunc(all, func(l list) bool { return !holds(l) })
	if len(all) > 1 {
		t.Fatal("two substitutions:", listText(all[0]), listText(all[1]))
	}
	if len(all) == 0 {
		return nil, false
	}
	return all[0], true
}

func wantTerm(t *testing.T, pattern, x api.Term, vars []string) (list, bool) {
	t.Helper()
	return only(t, variables(vars, pattern), replacing(x), func(l list) bool { return term.Same(subst.Apply(l, pattern), x) })
}

func wantClaim(t *testing.T, pattern, c api.Claim, vars []string) (list, bool) {
	t.Helper()
	return only(t, variables(vars, termsOf(pattern)...), replacing(termsOf(c)...), func(l list) bool { return claim.Same(subst.ApplyClaim(l, pattern), c) })
}

func wantMore(t *testing.T, l list, pattern, x api.Term, vars []string) (list, bool) {
	t.Helper()
	if subst.Right(l) != 0 {
		return nil, false
	}
	var given list
	var open []string
	for _, name := range variables(vars, pattern) {
		if y, ok := subst.Get(l, name); ok {
			given = append(given, to(name, y))
		} else {
			open = append(open, name)
		}
	}
	more, ok := only(t, open, replacing(x), func(m list) bool { return term.Same(subst.Apply(slices.Concat(given, m), pattern), x) })
	if !ok {
		return nil, false
	}
	whole := slices.Concat(l, more)
	slices.SortFunc(whole, func(p, q api.Pair) int { return cmp.Compare(p.Name, q.Name) })
	return whole, true
}

func wantAny(t *testing.T, pattern, in api.Term, vars []string) (api.Term, list, bool) {
	t.Helper()
	for _, part := range term.Parts(in) {
		if l, ok := wantTerm(t, pattern, part, vars); ok && !hasBoundPart(part) {
			return part, l, true
		}
	}
	return api.Term{}, nil, false
}

// answer is what a call answers, as data.
func answer(l list, ok bool) sample.Data {
	if ok {
		return asLists(l).With(asClaims(sample.True()))
	}
	return asLists(l).With(asClaims(sample.False()))
}

// partAnswer is what Any answers, as data.
func partAnswer(part api.Term, l list, ok bool) sample.Data { return answer(l, ok).With(asTerms(part)) }

// check calls f with vars in two orders, once and twice, and holds its answer against want, and the arguments against what they were; none of them may share memory.
func check(t *testing.T, call string, f func(vars []string) sample.Data, want, arguments sample.Data, vars []string) {
	t.Helper()
	if said := sample.WrongBy(f, want, arguments, vars); said != "" {
		t.Errorf("%s: %s", call, said)
	}
}

// holdTerm holds Term against want, and More and Claim where they have to answer the same.
func holdTerm(t *testing.T, pattern, x api.Term, vars []string, want sample.Data) {
	t.Helper()
	check(t, "Term", func(vars []string) sample.Data { return answer(Term(pattern, x, vars)) }, want, asTerms(pattern, x), vars)
	check(t, "More of nothing", func(vars []string) sample.Data { return answer(More(list{}, pattern, x, vars)) }, want, asTerms(pattern, x), vars)
	holdClaim(t, p("p", pattern), p("p", x), vars, want)
}

func checkTerm(t *testing.T, pattern, x api.Term, vars []string, want list) {
	t.Helper()
	holdTerm(t, pattern, x, vars, answer(want, true))
}

func noTerm(t *testing.T, pattern, x api.Term, vars []string) {
	t.Helper()
	holdTerm(t, pattern, x, vars, answer(nil, false))
}

func holdClaim(t *testing.T, pattern, c api.Claim, vars []string, want sample.Data) {
	t.Helper()
	check(t, "Claim", func(vars []string) sample.Data { return answer(Claim(pattern, c, vars)) }, want, asClaims(pattern, c), vars)
}

func checkClaim(t *testing.T, pattern, c api.Claim, vars []string, want list) {
	t.Helper()
	holdClaim(t, pattern, c, vars, answer(want, true))
}

func noClaim(t *testing.T, pattern, c api.Claim, vars []string) {
	t.Helper()
	holdClaim(t, pattern, c, vars, answer(nil, false))
}

func holdMore(t *testing.T, l list, pattern, x api.Term, vars []string, want sample.Data) {
	t.Helper()
	check(t, "More", func(vars []string) sample.Data { return answer(More(l, pattern, x, vars)) }, want, asLists(l).With(asTerms(pattern, x)), vars)
}

func checkMore(t *testing.T, l list, pattern, x api.Term, vars []string, want list) {
	t.Helper()
	holdMore(t, l, pattern, x, vars, answer(want, true))
}

func noMore(t *testing.T, l list, pattern, x api.Term, vars []string) {
	t.Helper()
	holdMore(t, l, pattern, x, vars, answer(nil, false))
}

func holdAny(t *testing.T, pattern, in api.Term, vars []string, want sample.Data) {
	t.Helper()
	check(t, "Any", func(vars []string) sample.Data { return partAnswer(Any(pattern, in, vars)) }, want, asTerms(pattern, in), vars)
}

func checkAny(t *testing.T, pattern, in api.Term, vars []string, part api.Term, want list) {
	t.Helper()
	holdAny(t, pattern, in, vars, partAnswer(part, want, true))
}

func noAny(t *testing.T, pattern, in api.Term, vars []string) {
	t.Helper()
	holdAny(t, pattern, in, vars, partAnswer(api.Term{}, nil, false))
}

// Promise 11.1.

func TestTerm(t *testing.T) {
	x, y, c, d := v("x"), v("y"), app("c"), app("d")
	checkTerm(t, f(x, x), f(c, c), justX(), list{to("x", c)})
	noTerm(t, f(x, x), f(c, d), justX())
	checkTerm(t, x, c, justX(), list{to("x", c)})
	checkTerm(t, f(x), f(g(c, d)), justX(), list{to("x", g(c, d))})
	checkTerm(t, f(y, f(x)), f(c, f(y)), xAndY(), list{to("x", y), to("y", c)})
	checkTerm(t, g(x, f(y, x), y), g(c, f(d, c), d), xAndY(), list{to("x", c), to("y", d)})
	noTerm(t, g(x, f(y, x), y), g(c, f(d, c), c), xAndY())
	noTerm(t, g(x, f(y, x), y), g(c, f(d, d), d), xAndY())
	checkTerm(t, g(x, y), g(c, c), xAndY(), list{to("x", c), to("y", c)})
	// What stands for a variable may name it, and other ones.
	checkTerm(t, x, x, justX(), list{to("x", x)})
	checkTerm(t, g(x, y), g(y, x), xAndY(), list{to("x", y), to("y", x)})
	checkTerm(t, g(x, x), g(f(x), f(x)), justX(), list{to("x", f(x))})
	noTerm(t, g(x, f(x)), g(f(x), x), justX())
	noTerm(t, g(x, x), g(x, f(x)), justX())
	checkTerm(t, g(x, y), g(f(y), f(x)), xAndY(), list{to("x", f(y)), to("y", f(x))})
	// It is the term that is to be reached, not the pattern.
	noTerm(t, c, x, justX())
	noTerm(t, f(c), f(x), justX())
	noTerm(t, f(c, x), f(x, c), justX())
	checkTerm(t, add(x, mul(2, y)), add(num(1), mul(2, neg(x))), xAndY(), list{to("x", num(1)), to("y", neg(x))})
	noTerm(t, add(x, mul(2, y)), add(num(1), mul(3, neg(x))), xAndY())
}

func TestVars(t *testing.T) {
	x, y, z, c, d := v("x"), v("y"), v("z"), app("c"), app("d")
	for _, vars := range [][]string{nil, {}, {"w"}, {"xx", "X", "", "x\x00", "\xff"}, {"c", "f"}} {
		checkTerm(t, c, c, vars, nil)
		checkTerm(t, x, x, vars, nil)
		checkTerm(t, f(x, c, y), f(x, c, y), vars, nil)
		noTerm(t, x, y, vars)
		noTerm(t, x, c, vars)
		noTerm(t, c, d, vars)
		noTerm(t, f(x, c, y), f(x, c, x), vars)
	}
	whole := g(f(x, y), x, z)
	for _, more := range [][]string{nil, {"w"}, {"", "a", "c", "f", "g", "zz"}} {
		checkTerm(t, whole, whole, more, nil)
		checkTerm(t, whole, g(f(c, y), c, z), append(more, "x"), list{to("x", c)})
		checkTerm(t, whole, g(f(x, c), x, z), append(more, "y"), list{to("y", c)})
		checkTerm(t, whole, g(f(x, y), x, c), append(more, "z"), list{to("z", c)})
		checkTerm(t, whole, g(f(c, d), c, z), append(more, "x", "y"), list{to("x", c), to("y", d)})
		checkTerm(t, whole, g(f(c, d), c, d), append(more, "x", "y", "z"), list{to("x", c), to("y", d), to("z", d)})
		checkTerm(t, whole, g(f(c, d), c, d), append(more, "y", "x", "y", "z", "x", "y"), list{to("x", c), to("y", d), to("z", d)})
		noTerm(t, whole, g(f(c, d), c, z), append(more, "x"))
		noTerm(t, whole, g(f(c, d), c, d), append(more, "x", "z"))
	}
	names := []string{"y", "x", "", "\xff", "X", "xx", "x'", "x\x00"}
	var vars, places []api.Term
	for i, name := range names {
		vars, places = append(vars, v(name)), append(places, num(int64(i)))
	}
	checkTerm(t, f(vars...), f(places...), names, list{to("", num(2)), to("X", num(4)), to("x", num(1)), to("x\x00", num(7)), to("x'", num(6)), to("xx", num(5)), to("y", num(0)), to("\xff", num(3))})
	for i, name := range names {
		one := slices.Clone(vars)
		one[i] = c
		checkTerm(t, f(vars...), f(one...), []string{name}, list{to(name, c)})
	}
}

// A variable may have Args and a Num, which count for nothing; variables that occur in such Args alone have no place.
func TestArgsAndNumsOfVariables(t *testing.T) {
	x, y, c, d := v("x"), v("y"), app("c"), app("d")
	numbered := func(name string, n int64) api.Term { return api.Term{Op: api.TVar, Name: name, Num: n} }
	for _, x := range []api.Term{x, withArgs(x, y), withArgs(x, x, y), withArgs(x, b(0)), withArgs(x, f(withArgs(y, x))), numbered("x", 7), numbered("x", -1), withArgs(numbered("x", 7), y)} {
		checkTerm(t, x, c, xAndY(), list{to("x", c)})
		checkTerm(t, x, v("x"), xAndY(), list{to("x", v("x"))})
		checkTerm(t, f(x, y), f(c, d), xAndY(), list{to("x", c), to("y", d)})
		checkTerm(t, f(y, x), f(c, d), xAndY(), list{to("x", d), to("y", c)})
		checkTerm(t, g(x, v("x"), x), g(c, c, c), xAndY(), list{to("x", c)})
		noTerm(t, g(x, v("x"), x), g(c, c, d), xAndY())
		noTerm(t, g(x, v("x"), x), g(c, d, c), xAndY())
	}
	// But what stands in its place has to be right, be it the same.
	for _, wrong := range []api.Term{withArgs(x, y), numbered("x", 7), numbered("x", -1), withArgs(numbered("x", 1), c), withArgs(v("z"), c)} {
		noTerm(t, x, wrong, xAndY())
		noTerm(t, wrong, wrong, []string{"x", "y", "z"})
		checkTerm(t, wrong, wrong, []string{"w"}, nil)
	}
	// A TVar that is no variable is a part as any other.
	z := v("z")
	checkTerm(t, withArgs(z, x), withArgs(z, c), justX(), list{to("x", c)})
	checkTerm(t, withArgs(z, withArgs(z, x), y), withArgs(z, withArgs(z, c), d), xAndY(), list{to("x", c), to("y", d)})
	for _, other := range []api.Term{z, withArgs(z, c, c), withArgs(y, c), withArgs(numbered("z", 1), c), app("z", c)} {
		noTerm(t, withArgs(z, x), other, justX())
	}
	checkTerm(t, numbered("z", 3), numbered("z", 3), justX(), nil)
	noTerm(t, numbered("z", 3), numbered("z", 4), justX())
	noTerm(t, numbered("z", 3), z, justX())
}

// A part with the name of a variable is none if it is no TVar.
func TestNamesakes(t *testing.T) {
	x, y, c, d := v("x"), v("y"), app("c"), app("d")
	for _, op := range []int{math.MinInt64, -1, 0, 2, 3, 4, 5, 6, 7, 8, 9, 1<<32 + 1, greatest} {
		same := api.Term{Op: op, Name: "x", Num: 3}
		checkTerm(t, same, same, justX(), nil)
		noTerm(t, same, c, justX())
		noTerm(t, same, x, justX())
		noTerm(t, same, api.Term{Op: op, Name: "y", Num: 3}, xAndY())
		checkTerm(t, f(x, same), f(c, same), justX(), list{to("x", c)})
		noTerm(t, f(x, same), f(c, c), justX())
		checkTerm(t, withArgs(same, x, y), withArgs(same, c, d), xAndY(), list{to("x", c), to("y", d)})
		noTerm(t, withArgs(same, x, y), withArgs(same, c), xAndY())
	}
	checkTerm(t, app("x", x), app("x", app("x")), justX(), list{to("x", app("x"))})
	noTerm(t, app("x", x), app("y", c), xAndY())
	checkTerm(t, f(x), f(app("x")), justX(), list{to("x", app("x"))})
}

// rightPlaces are terms that may replace a variable.
func rightPlaces() []api.Term {
	x, c := v("x"), app("c")
	l := []api.Term{x, v("y"), v(""), v("\xff"), c, app(""), num(0), num(-7), num(greatest), f(x, g(c, v("y"))), mul(0, neg(x)), f(sample.Vars(8, "x")...), chain(63, x), chain(62, num(1)), sized(4096)}
	for _, hull := range rightHulls() {
		l = append(l, hull(x), hull(hull(c)))
	}
	return l
}

// wrongPlaces are terms that may not replace a variable.
func wrongPlaces() []api.Term {
	x, c := v("x"), app("c")
	l := []api.Term{{}, {Op: 9}, {Op: api.TNum, Name: "x"}, {Op: api.TNeg}, withArgs(num(1), c), f(sample.Vars(9, "x")...), f(c, f(sample.Vars(9, "x")...)), chain(63, api.Term{}), chain(100, x), sized(5000)}
	for _, wrong := range wrongTerms() {
		l = append(l, wrong, f(c, wrong))
	}
	for _, n := range []int64{math.MinInt64, -1, 0, 1, greatest} {
		l = append(l, b(n), f(b(n)), f(c, b(n)), f(b(n), c), chain(62, b(n)), withArgs(x, b(n)), withArgs(b(n), x))
	}
	for _, hull := range hulls() {
		l = append(l, hull(b(0)), hull(api.Term{}), hull(hull(b(1))))
	}
	return l
}

func TestPlaces(t *testing.T) {
	x, y, c := v("x"), v("y"), app("c")
	for _, place := range rightPlaces() {
		checkTerm(t, x, place, justX(), list{to("x", place)})
		checkTerm(t, f(x, y, x), f(place, c, place), xAndY(), list{to("x", place), to("y", c)})
		for _, hull := range hulls() {
			checkTerm(t, hull(x), hull(place), justX(), list{to("x", place)})
			checkTerm(t, f(y, hull(hull(x))), f(place, hull(hull(place))), xAndY(), list{to("x", place), to("y", place)})
		}
	}
	for _, place := range wrongPlaces() {
		noTerm(t, x, place, justX())
		noTerm(t, f(x), f(place), justX())
		noTerm(t, f(x, x), f(place, place), justX())
		noTerm(t, f(x, x), f(c, place), justX())
		noTerm(t, f(y, x), f(c, place), xAndY())
		noTerm(t, f(x, y), f(place, c), xAndY())
		for _, hull := range hulls() {
			noTerm(t, hull(x), hull(place), justX())
		}
	}
}

// What is no variable has to be the same, right or not, bound or not.
func TestOtherPartsNeedNotBeRight(t *testing.T) {
	w, c := v("w"), app("c")
	for _, part := range append(wrongPlaces(), rightPlaces()...) {
		checkTerm(t, part, part, nil, nil)
		checkTerm(t, f(w, part), f(c, part), []string{"w"}, list{to("w", c)})
		checkTerm(t, f(part, w), f(part, c), []string{"w"}, list{to("w", c)})
		noTerm(t, f(w, part), f(part, w), []string{"w"})
	}
}

// someParts are terms without variables that differ in one field or several, most of them wrong.
func someParts() []api.Term {
	var l []api.Term
	for _, op := range []int{0, 1, 2, 3, 4, 8, 9} {
		for _, name := range []string{"", "z"} {
			for _, n := range []int64{-1, 0, 1} {
				for _, args := range [][]api.Term{nil, {app("c")}, {app("d")}, {app("c"), app("c")}} {
					l = append(l, api.Term{Op: op, Name: name, Num: n, Args: args})
				}
			}
		}
	}
	return l
}

func TestDifferences(t *testing.T) {
	x, c := v("x"), app("c")
	for i, one := range someParts() {
		for j, other := range someParts() {
			want := answer(nil, i == j)
			holdTerm(t, one, other, nil, want)
			if i == j {
				want = answer(list{to("x", c)}, true)
			}
			holdTerm(t, f(one, x), f(other, c), justX(), want)
			if (i+j)%8 == 0 {
				holdTerm(t, f(x, g(x, one)), f(c, g(c, other)), justX(), want)
				holdTerm(t, withArgs(one, x, c), withArgs(other, c, c), justX(), want)
			}
		}
	}
}

func TestNumbersOfArgs(t *testing.T) {
	x, c := v("x"), app("c")
	for n := range 12 {
		for m := range 12 {
			want := answer(nil, n == m)
			holdTerm(t, f(slices.Repeat([]api.Term{c}, n)...), f(slices.Repeat([]api.Term{c}, m)...), justX(), want)
			if n == m && n > 0 {
				want = answer(list{to("x", c)}, true)
			}
			holdTerm(t, f(slices.Repeat([]api.Term{x}, n)...), f(slices.Repeat([]api.Term{c}, m)...), justX(), want)
		}
	}
}

func TestClaim(t *testing.T) {
	x, y, c, d := v("x"), v("y"), app("c"), app("d")
	for _, whole := range []api.Claim{sample.True(), sample.False(), p("p"), p("x"), p("p", c, b(2)), within(3, eq(b(0), v("z"))), not(le(num(1), num(2))), iff(p("p"), p("q"))} {
		checkClaim(t, whole, whole, nil, nil)
		checkClaim(t, whole, whole, xAndY(), nil)
		noClaim(t, whole, p("other"), xAndY())
		noClaim(t, whole, not(whole), xAndY())
		noClaim(t, not(whole), whole, xAndY())
	}
	checkClaim(t, p("p", x), p("p", x), nil, nil)
	noClaim(t, p("p", x), p("p", y), nil)
	checkClaim(t, p("p", x, y), p("p", y, f(c)), xAndY(), list{to("x", y), to("y", f(c))})
	checkClaim(t, p("p", y), p("p", f(c)), xAndY(), list{to("y", f(c))})
	// A variable may occur in several terms of the claim.
	whole := func(a, b, e api.Term) api.Claim { return imp(le(a, b), or(p("p", f(e)), not(eq(b, a)))) }
	checkClaim(t, whole(x, y, x), whole(c, d, c), xAndY(), list{to("x", c), to("y", d)})
	checkClaim(t, whole(x, y, x), whole(c, c, c), xAndY(), list{to("x", c), to("y", c)})
	noClaim(t, whole(x, y, x), whole(c, d, d), xAndY())
	noClaim(t, whole(x, y, x), whole(d, d, c), xAndY())
	noClaim(t, whole(x, x, c), whole(c, d, c), xAndY())
	checkClaim(t, and(p("p", x), p("q", x)), and(p("p", c), p("q", c)), justX(), list{to("x", c)})
	noClaim(t, and(p("p", x), p("q", x)), and(p("p", c), p("q", d)), justX())
	checkClaim(t, and(p("p"), iff(p("q", y), p("q", x))), and(p("p"), iff(p("q", c), p("q", d))), xAndY(), list{to("x", d), to("y", c)})
	for _, place := range rightPlaces() {
		for k := range 4 {
			checkClaim(t, and(p("p", x), within(k, eq(x, f(y)))), and(p("p", place), within(k, eq(place, f(c)))), xAndY(), list{to("x", place), to("y", c)})
		}
	}
	for _, place := range wrongPlaces() {
		for k := range 4 {
			noClaim(t, within(k, p("p", x)), within(k, p("p", place)), justX())
			noClaim(t, and(p("p", x), within(k, p("p", x))), and(p("p", c), within(k, p("p", place))), justX())
			checkClaim(t, within(k, p("p", place)), within(k, p("p", place)), nil, nil)
		}
	}
}

func TestNamesOfBindersDoNotMatter(t *testing.T) {
	x, y, c := v("x"), v("y"), app("c")
	checkClaim(t, forAll("u", "A", eq(x, b(0))), forAll("v", "A", eq(c, b(0))), justX(), list{to("x", c)})
	for k := range 5 {
		pattern, whole := and(p("p", y), within(k, p("p", x, b(0), y))), and(p("p", x), within(k, p("p", f(c), b(0), x)))
		for _, name := range []string{"", "x", "y", "c", "u", "\xff"} {
			for _, other := range []string{"", "x", "y", "z"} {
				checkClaim(t, renamed(pattern, name, name+"'"), renamed(whole, other, "x"), xAndY(), list{to("x", f(c)), to("y", x)})
			}
			checkClaim(t, renamed(pattern, name, name+"'"), renamed(whole, "w"), []string{"u", "w", "x", "y"}, list{to("x", f(c)), to("y", x)})
			noClaim(t, renamed(pattern, name), renamed(whole, name), justX())
		}
	}
	// What a binder binds is a number, and no variable.
	noClaim(t, exists("x", "A", p("p", x)), exists("x", "A", p("p", b(0))), justX())
	noClaim(t, exists("x", "A", p("p", b(0))), exists("x", "A", p("p", x)), justX())
	noClaim(t, exists("x", "A", p("p", x)), exists("x", "A", p("p", b(1))), justX())
	checkClaim(t, exists("x", "A", p("p", x)), exists("x", "A", p("p", x)), justX(), list{to("x", x)})
	// Where the names count, they have to be the same.
	noClaim(t, p("p", x), p("q", c), justX())
	noClaim(t, forAll("u", "A", p("p", x)), forAll("u", "A", p("q", c)), justX())
}

// someClaims are claims that differ in one field or several, most of them wrong.
func someClaims() []api.Claim {
	var l []api.Claim
	c, d := app("c"), app("d")
	for _, op := range []int{0, 1, 3, 7, 11, 12, 13} {
		for _, name := range []string{"", "z"} {
			for _, s := range []string{"", "A"} {
				for _, terms := range [][]api.Term{nil, {c}, {d}, {c, c}} {
					for _, subs := range [][]api.Claim{nil, {p("p")}, {p("q")}, {p("p"), p("p")}} {
						l = append(l, api.Claim{Op: op, Name: name, Sort: s, Terms: terms, Subs: subs})
					}
				}
			}
		}
	}
	return l
}

func TestDifferencesOfClaims(t *testing.T) {
	x, c := v("x"), app("c")
	for i, one := range someClaims() {
		for j, other := range someClaims() {
			want := answer(nil, claim.Same(one, other))
			if holdClaim(t, one, other, nil, want); (i+j)%7 != 0 {
				continue
			}
			if claim.Same(one, other) {
				want = answer(list{to("x", c)}, true)
			}
			k := (i + j) % 4
			holdClaim(t, within(k, and(one, p("p", x))), within(k, and(other, p("p", c))), justX(), want)
			holdClaim(t, made(9, p("p", x), within(k, one)), made(9, p("p", c), within(k, other)), justX(), want)
			holdClaim(t, within(k, withTerms(made(7, one), x)), within(k, withTerms(made(7, other), c)), justX(), want)
		}
	}
}

// Promise 11.2.

func TestMore(t *testing.T) {
	x, y, z, c, d := v("x"), v("y"), v("z"), app("c"), app("d")
	for _, l := range []list{nil, {}} {
		checkMore(t, l, c, c, nil, nil)
		noMore(t, l, c, d, nil)
		checkMore(t, l, x, c, justX(), list{to("x", c)})
		checkMore(t, l, f(y, x), f(c, d), xAndY(), list{to("x", d), to("y", c)})
		noMore(t, l, f(x, x), f(c, d), xAndY())
	}
	// A variable of l becomes what it is in l.
	checkMore(t, list{to("x", c)}, x, c, justX(), list{to("x", c)})
	noMore(t, list{to("x", c)}, x, d, justX())
	noMore(t, list{to("x", c)}, x, x, justX())
	checkMore(t, list{to("x", x)}, x, x, justX(), list{to("x", x)})
	checkMore(t, list{to("x", y)}, x, y, xAndY(), list{to("x", y)})
	noMore(t, list{to("x", y), to("y", c)}, x, c, xAndY())
	checkMore(t, list{to("x", f(y)), to("y", c)}, g(x, y, x), g(f(y), c, f(y)), xAndY(), list{to("x", f(y)), to("y", c)})
	noMore(t, list{to("x", f(y)), to("y", c)}, g(x, y, x), g(f(c), c, f(y)), xAndY())
	checkMore(t, list{to("x", c)}, f(x, y, x), f(c, d, c), xAndY(), list{to("x", c), to("y", d)})
	noMore(t, list{to("x", c)}, f(x, y, x), f(c, d, d), xAndY())
	noMore(t, list{to("x", c)}, f(x, y, x), f(d, d, d), xAndY())
	noMore(t, list{to("x", c)}, f(y, y, x), f(d, c, c), xAndY())
	checkMore(t, list{to("x", c)}, withArgs(x, y), c, xAndY(), list{to("x", c)})
	noMore(t, list{to("x", c)}, withArgs(x, y), d, xAndY())
	// That may be a term that may not replace a variable; other variables have to keep to it.
	for _, n := range []int64{0, 1, greatest} {
		for _, bound := range []api.Term{b(n), f(c, b(n)), add(b(n), num(1))} {
			l := list{to("x", bound)}
			checkMore(t, l, x, bound, justX(), l)
			checkMore(t, l, f(x, y), f(bound, c), xAndY(), list{to("x", bound), to("y", c)})
			noMore(t, l, f(x, y), f(bound, bound), xAndY())
			noMore(t, l, y, bound, xAndY())
			noMore(t, l, x, c, justX())
			noMore(t, l, x, b(2), justX())
			noMore(t, l, x, f(bound), justX())
		}
	}
	// Names of l that the pattern does not have, or that are no variables, stay as they are and count for nothing.
	l := list{to("f", d), to("w", b(0)), to("z", c)}
	checkMore(t, l, c, c, nil, l)
	checkMore(t, l, f(c), f(c), []string{"w", "z"}, l)
	checkMore(t, l, f(x), f(d), justX(), list{to("f", d), to("w", b(0)), to("x", d), to("z", c)})
	checkMore(t, l, f(x, z), f(d, z), justX(), list{to("f", d), to("w", b(0)), to("x", d), to("z", c)})
	noMore(t, l, f(x, z), f(d, c), justX())
	checkMore(t, l, f(x, z), f(d, c), []string{"x", "z"}, list{to("f", d), to("w", b(0)), to("x", d), to("z", c)})
	noMore(t, l, f(x, z), f(d, z), []string{"x", "z"})
	checkMore(t, list{to("x", c)}, x, x, nil, list{to("x", c)})
	noMore(t, list{to("x", c)}, x, c, nil)
	checkMore(t, list{to("y", d)}, withArgs(x, y), c, xAndY(), list{to("x", c), to("y", d)})
	checkMore(t, list{to("c", d)}, f(c, x), f(c, c), []string{"c", "x"}, list{to("c", d), to("x", c)})
}

func TestMoreIsInOrder(t *testing.T) {
	c, names := app("c"), []string{"", "\xff", "a", "b", "bb", "c", "e", "zz", "C"}
	given := list{to("b", num(1)), to("d", b(3)), to("z", num(2))}
	for _, name := range names {
		whole := subst.Put(given, name, c)
		if name == "b" {
			noMore(t, given, v(name), c, names)
			continue
		}
		checkMore(t, given, v(name), c, names, whole)
		checkMore(t, given, f(v("b"), v(name), v("b")), f(num(1), c, num(1)), names, whole)
		noMore(t, given, f(v("b"), v(name), v("b")), f(num(2), c, num(1)), names)
	}
	checkMore(t, given, f(v("zz"), v("a"), v("c"), v("z"), v("c")), f(c, num(5), num(6), num(2), num(6)), append(names, "z"), list{to("a", num(5)), to("b", num(1)), to("c", num(6)), to("d", b(3)), to("z", num(2)), to("zz", c)})
}

func TestMoreOfWrongLists(t *testing.T) {
	x, c, d := v("x"), app("c"), app("d")
	lists := []list{{to("x", c), to("x", c)}, {to("", c), to("", d)}, {to("y", c), to("x", c)}, {to("a", c), to("c", c), to("b", c)}, {to("a", c), to("b", c), to("b", c)}, {to("b", c), to("B", c)}, {to("w", b(-1))}, {to("w", api.Term{})}, {to("x", withArgs(x, x))}}
	for _, wrong := range wrongTerms() {
		lists = append(lists, list{to("x", wrong)}, list{to("a", c), to("w", wrong)}, list{to("w", wrong), to("x", c)}, list{to("a", c), to("b", wrong), to("x", c)})
	}
	for _, l := range lists {
		noMore(t, l, c, c, nil)
		noMore(t, l, x, c, justX())
		noMore(t, l, f(x, v("y")), f(c, c), xAndY())
		for _, q := range l {
			noMore(t, l, v(q.Name), q.Term, []string{q.Name})
		}
	}
}

// Promise 11.3.

func TestAny(t *testing.T) {
	x, y, c, d := v("x"), v("y"), app("c"), app("d")
	// The whole, a part further in, a part of several: the first one in preorder.
	checkAny(t, x, f(c, d), justX(), f(c, d), list{to("x", f(c, d))})
	checkAny(t, c, c, nil, c, nil)
	checkAny(t, f(x), f(c), justX(), f(c), list{to("x", c)})
	checkAny(t, f(x), f(c, f(c)), justX(), f(c), list{to("x", c)})
	checkAny(t, c, g(d, f(d, f(c))), xAndY(), c, nil)
	checkAny(t, f(x), g(f(d), f(c)), justX(), f(d), list{to("x", d)})
	checkAny(t, f(x), g(g(c, f(d)), f(c)), justX(), f(d), list{to("x", d)})
	checkAny(t, f(x), g(g(c, d), f(f(c)), f(d)), justX(), f(f(c)), list{to("x", f(c))})
	checkAny(t, f(f(x)), f(f(f(c))), justX(), f(f(f(c))), list{to("x", f(c))})
	checkAny(t, f(x, x), g(f(c, d), f(d, d), f(c, c)), justX(), f(d, d), list{to("x", d)})
	checkAny(t, f(x, y), g(f(c), f(d, c), f(c, d)), xAndY(), f(d, c), list{to("x", d), to("y", c)})
	checkAny(t, f(x, y), f(f(c, d), c), xAndY(), f(f(c, d), c), list{to("x", f(c, d)), to("y", c)})
	checkAny(t, f(y), g(f(x), f(y)), justX(), f(y), nil)
	checkAny(t, add(x, y), mul(2, neg(add(num(1), sub(num(2), num(3))))), xAndY(), add(num(1), sub(num(2), num(3))), list{to("x", num(1)), to("y", sub(num(2), num(3)))})
	// None.
	noAny(t, f(x, x), g(f(c, d), f(d, c)), justX())
	noAny(t, f(x), g(c, f(c, d)), justX())
	noAny(t, c, d, nil)
	noAny(t, c, x, justX())
	noAny(t, x, y, nil)
	noAny(t, f(f(c)), f(c), xAndY())
	for _, hull := range hulls() {
		checkAny(t, f(c, x), hull(hull(f(c, d))), justX(), f(c, d), list{to("x", d)})
		noAny(t, f(c, x), hull(hull(f(d, d))), justX())
	}
	for _, hull := range rightHulls() {
		checkAny(t, hull(x), hull(hull(c)), justX(), hull(hull(c)), list{to("x", hull(c))})
		checkAny(t, hull(c), hull(hull(c)), nil, hull(c), nil)
	}
}

// A part with a bound number anywhere within is passed over, what it has without one is not.
func TestAnyPassesOverBoundNumbers(t *testing.T) {
	x, c, d := v("x"), app("c"), app("d")
	for _, n := range []int64{math.MinInt64, -1, 0, 1, greatest} {
		noAny(t, x, b(n), justX())
		noAny(t, b(n), b(n), justX())
		noAny(t, b(n), f(c, b(n)), nil)
		noAny(t, f(b(n), x), f(b(n), c), justX())
		noAny(t, f(b(n), x), g(f(b(n), c), f(b(n), d)), justX())
		noAny(t, withArgs(v("z"), b(n)), withArgs(v("z"), b(n)), justX())
		noAny(t, f(x), f(f(f(b(n)))), justX())
		checkAny(t, x, f(b(n), c), justX(), c, list{to("x", c)})
		checkAny(t, x, f(c, b(n)), justX(), c, list{to("x", c)})
		checkAny(t, x, f(g(d, b(n)), f(c)), justX(), d, list{to("x", d)})
		checkAny(t, f(x), g(f(b(n)), f(f(b(n))), f(d)), justX(), f(d), list{to("x", d)})
		checkAny(t, f(x, c), f(f(f(d, c), f(b(n), c)), c), justX(), f(d, c), list{to("x", d)})
		checkAny(t, withArgs(x, b(n)), c, justX(), c, list{to("x", c)})
		noAny(t, withArgs(b(n), x), withArgs(b(n), c), justX())
		checkAny(t, x, withArgs(b(n), c, d), justX(), c, list{to("x", c)})
		for _, hull := range hulls() {
			checkAny(t, f(c, x), hull(g(hull(b(n)), f(c, b(n)), f(c, d))), justX(), f(c, d), list{to("x", d)})
		}
	}
}

// Neither the whole nor the pattern has to be right, but what stands for a variable has to be.
func TestAnyInWrongTerms(t *testing.T) {
	x, c := v("x"), app("c")
	for _, wrong := range wrongTerms() {
		checkAny(t, f(x, c), g(f(wrong, c), f(f(c), c), c), justX(), f(f(c), c), list{to("x", f(c))})
		checkAny(t, wrong, g(f(wrong, c), wrong), nil, wrong, nil)
	}
	checkAny(t, x, chain(64, c), justX(), chain(63, c), list{to("x", chain(63, c))})
	checkAny(t, f(x), chain(70, c), justX(), chain(64, c), list{to("x", chain(63, c))})
	checkAny(t, x, chain(63, c), justX(), chain(63, c), list{to("x", chain(63, c))})
	checkAny(t, x, g(sized(4097), sized(4096)), justX(), sized(4097).Args[0], list{to("x", sized(4097).Args[0])})
	checkAny(t, x, api.Term{Op: api.TVar, Name: "x", Num: 1, Args: []api.Term{c}}, justX(), c, list{to("x", c)})
	noAny(t, x, api.Term{Op: api.TVar, Name: "x", Num: 1}, justX())
	checkAny(t, withArgs(v("z"), x), f(withArgs(v("z"), c)), justX(), withArgs(v("z"), c), list{to("x", c)})
}

// All calls against the model, for all of a small set.

// put are terms made of all of these leaves.
func put(leaves []api.Term) []api.Term {
	l := slices.Clone(leaves)
	for _, x := range leaves {
		l = append(l, f(x), neg(x), f(f(x)), mul(2, x))
		for _, y := range leaves {
			l = append(l, g(x, y), g(x, g(y, x)), withArgs(v("z"), y, x))
		}
	}
	return l
}

// somePatterns are small patterns, right and wrong ones.
func somePatterns() []api.Term {
	x, y := v("x"), v("y")
	return append(put([]api.Term{x, y, v("z"), app("c"), b(0), withArgs(x, y)}), api.Term{Op: api.TVar, Name: "y", Num: 3}, f(withArgs(y, x), x), g(f(x), g(y, f(v("z")))), api.Term{}, f(api.Term{Op: 9, Args: []api.Term{x}}), g(x, g(x, x)), g(g(x, y), g(y, x)))
}

// someTerms are small terms, right and wrong ones.
func someTerms() []api.Term {
	y, c := v("y"), app("c")
	return append(put([]api.Term{c, y, v("z"), b(0), withArgs(y, c)}), v("x"), api.Term{}, f(api.Term{Op: 9, Args: []api.Term{c}}), g(f(c), g(y, f(v("z")))), g(f(c), f(y)), g(f(c), g(f(c), f(c))), g(g(f(y), c), g(c, f(y))), num(3))
}

func someVars() [][]string {
	return [][]string{nil, justX(), {"y"}, xAndY(), {"x", "y", "z"}, {"c", "f", "w"}}
}

// enough fails if the model found a substitution too seldom, or none too seldom.
func enough(t *testing.T, found map[bool]int, least int) {
	t.Helper()
	if min(found[true], found[false]) < least {
		t.Error("too few answers of a kind:", found)
	}
}

func TestTermFollowsTheChapter(t *testing.T) {
	found := map[bool]int{}
	for _, pattern := range somePatterns() {
		for _, x := range someTerms() {
			for _, vars := range someVars() {
				want, ok := wantTerm(t, pattern, x, vars)
				holdTerm(t, pattern, x, vars, answer(want, ok))
				found[ok]++
			}
		}
	}
	enough(t, found, 2000)
}

func TestMoreFollowsTheChapter(t *testing.T) {
	found := map[bool]int{}
	patterns, terms := somePatterns(), someTerms()
	for i, l := range listsOf(2, []string{"x", "y", "z"}, []api.Term{app("c"), v("y"), b(0), f(app("c"))}) {
		for j, pattern := range patterns {
			for k := (i + j) % 23; k < len(terms); k += 23 {
				for _, vars := range someVars()[1:5] {
					want, ok := wantMore(t, l, pattern, terms[k], vars)
					holdMore(t, l, pattern, terms[k], vars, answer(want, ok))
					found[ok]++
				}
			}
		}
	}
	enough(t, found, 2000)
}

func TestAnyFollowsTheChapter(t *testing.T) {
	found := map[bool]int{}
	terms := someTerms()
	for i, pattern := range somePatterns() {
		for j := i % 3; j < len(terms); j += 3 {
			in := app("h", b(1), terms[j], terms[(i+7*j)%len(terms)])
			for _, vars := range someVars() {
				part, want, ok := wantAny(t, pattern, in, vars)
				holdAny(t, pattern, in, vars, partAnswer(part, want, ok))
				found[ok]++
			}
		}
	}
	enough(t, found, 2000)
}

// claimsOf are small right claims of terms made of these leaves, two of them at a time, within up to two binders.
func claimsOf(leaves ...api.Term) []api.Claim {
	terms := slices.DeleteFunc(put(leaves), func(x api.Term) bool { return term.Right(x) != api.OK })
	l := []api.Claim{sample.True(), p("x")}
	for i, x := range terms {
		y := f(x)
		if i%2 > 0 {
			y = terms[(7*i+3)%len(terms)]
		}
		l = append(l, p("p", x), eq(x, y), within(1, eq(y, x)), and(p("q", x, y), within(2, or(le(x, b(1)), p("r")))), iff(p("p", x), forAll("x", "A", imp(p("p", y), exists("y", "B", eq(x, b(1)))))))
	}
	return l
}

func claimPatterns() []api.Claim { return claimsOf(v("x"), v("y"), app("c"), b(0)) }

func wholeClaims() []api.Claim { return claimsOf(v("y"), app("c"), b(0)) }

func TestClaimFollowsTheChapter(t *testing.T) {
	found := map[bool]int{}
	for _, pattern := range claimPatterns() {
		for _, c := range wholeClaims() {
			if pattern.Op != c.Op {
				continue
			}
			for _, vars := range someVars() {
				want, ok := wantClaim(t, pattern, c, vars)
				holdClaim(t, pattern, c, vars, answer(want, ok))
				found[ok]++
			}
		}
	}
	enough(t, found, 500)
}

// Promise 11.4. (That the substitution is the only one is what the model of the calls looks at.)

// places are terms that may replace variables.
func places() []api.Term {
	return []api.Term{v("x"), v("y"), app("c"), f(v("x"), v("z")), neg(num(2))}
}

// substitutions are all ways to put places for the names, which increase.
func substitutions(names []string) []list {
	return slices.DeleteFunc(listsOf(len(names), names, places()), func(l list) bool { return len(l) != len(names) || subst.Right(l) != api.OK })
}

// A pattern matches whatever it becomes by a substitution, and by that one alone.
func TestWhatPatternsBecome(t *testing.T) {
	for _, pattern := range somePatterns() {
		for _, vars := range someVars() {
			for _, l := range substitutions(variables(vars, pattern)) {
				checkTerm(t, pattern, subst.Apply(l, pattern), vars, l)
			}
		}
	}
	for _, pattern := range claimPatterns() {
		for _, vars := range someVars() {
			for _, l := range substitutions(variables(vars, termsOf(pattern)...)) {
				checkClaim(t, pattern, subst.ApplyClaim(l, pattern), vars, l)
			}
		}
	}
}

// For More too, whatever part of the substitution is given, and for Any, wherever what the pattern becomes stands.
func TestWhatPatternsBecomeWithMoreAndAny(t *testing.T) {
	for _, pattern := range somePatterns() {
		for _, vars := range someVars() {
			for _, l := range substitutions(variables(vars, pattern)) {
				x := subst.Apply(l, pattern)
				for i := range l {
					checkMore(t, l[:i], pattern, x, vars, l)
					checkMore(t, l[i:], pattern, x, vars, l)
				}
				checkMore(t, l, pattern, x, vars, l)
				if in := app("h", app("k", b(0)), x); !hasBoundPart(x) {
					checkAny(t, app("k", pattern), app("k", in, app("k", x)), vars, app("k", x), l)
				}
			}
		}
	}
}

// What the result turns the pattern into is the term, part or claim.
func TestResultsTurnPatternsIntoTerms(t *testing.T) {
	for _, vars := range someVars() {
		for _, pattern := range somePatterns() {
			for _, x := range someTerms() {
				if l, ok := Term(pattern, x, vars); ok && !term.Same(subst.Apply(l, pattern), x) {
					t.Errorf("%s turns %s into another term than %s", listText(l), termText(pattern), termText(x))
				}
				if part, l, ok := Any(pattern, app("h", b(0), x), vars); ok && (!term.Same(subst.Apply(l, pattern), part) || !term.Has(x, part) || len(bind.LooseTerm(part)) > 0) {
					t.Errorf("%s turns %s into another part of %s than %s", listText(l), termText(pattern), termText(x), termText(part))
				}
			}
		}
		for _, pattern := range claimPatterns() {
			for _, c := range wholeClaims() {
				if l, ok := Claim(pattern, c, vars); ok && !claim.Same(subst.ApplyClaim(l, pattern), c) {
					t.Errorf("%s turns %s into another claim than %s", listText(l), text(pattern), text(c))
				}
			}
		}
	}
}

// Rules of all layers: memory, ends, limits.

// Whatever becomes of an argument or of an answer, the other one stays as it was.
func TestAnswersShareNoMemory(t *testing.T) {
	vars := []string{"x", "y", "z"}
	for _, name := range []string{"Term", "Claim", "More", "Any"} {
		l := list{to("a", f(app("c"), b(0))), to("x", f(v("y")))}
		pattern, x := g(v("x"), v("y"), f(v("z"))), g(f(v("y")), f(app("c"), f(num(1))), f(f(v("x"))))
		c, d := and(p("p", pattern), within(1, eq(v("y"), pattern))), and(p("p", x), within(1, eq(f(app("c"), f(num(1))), x)))
		call := map[string]func() sample.Data{
			"Term":  func() sample.Data { return answer(Term(pattern, x, vars)) },
			"Claim": func() sample.Data { return answer(Claim(c, d, vars)) },
			"More":  func() sample.Data { return answer(More(l, pattern, x, vars)) },
			"Any":   func() sample.Data { return partAnswer(Any(pattern, f(b(0), x), vars)) },
		}[name]
		if got := call(); len(got.Pairs[0]) < 3 {
			t.Error(name, got.Text())
		}
		if said := sample.Tied(call, asLists(l).With(asTerms(pattern, x)).With(asClaims(c, d))); said != "" {
			t.Error(name, said)
		}
	}
}

// Nothing is written behind the lists of an argument, and nothing that is appended to an answer is seen.
func TestRoomBehindLists(t *testing.T) {
	room := list{to("b", f(v("x"))), to("d", v("y")), to("free", v("free")), to("free", v("free"))}
	before := sample.TwinPairs(room)
	names := []string{"a", "c", "e", "free", "free"}
	args := []api.Term{f(app("c")), v("free"), v("free")}
	x := api.Term{Op: api.TApp, Name: "f", Args: args[:1]}
	for _, name := range []string{"a", "c", "e"} {
		for _, l := range []list{nil, room[:0], room[:1], room[:2], room[1:2]} {
			got, ok := More(l, f(v(name)), x, names[:3])
			if _ = append(got, to("spoilt", x)); !ok {
				t.Error(listText(l), name)
			}
		}
		part, got, _ := Any(v(name), x, names[:3])
		_, _, _ = append(got, to("spoilt", x)), append(part.Args, v("spoilt")), append(got[0].Term.Args, v("spoilt"))
	}
	if !sample.EqualPairs(room, before) || !sample.EqualTerms(f(args...), f(f(app("c")), v("free"), v("free"))) || !slices.Equal(names, []string{"a", "c", "e", "free", "free"}) {
		t.Error(listText(room), sample.TermTexts(args), names)
	}
}

// The calls end for whatever they are given: all wrong terms and claims against each other.
func TestWrongTermsAndClaims(t *testing.T) {
	terms := append(wrongPlaces(), v("x"), f(v("x")), withArgs(v("x"), b(0)))
	for _, pattern := range terms {
		for _, x := range terms {
			arguments := asTerms(pattern, x).With(asLists(list{to("y", x)}))
			if said := arguments.Changed(func() {
				Term(pattern, x, justX())
				More(arguments.Pairs[0], pattern, x, xAndY())
				Any(pattern, x, justX())
			}); said != "" {
				t.Error(said)
			}
		}
	}
	var claims []api.Claim
	for _, op := range []int{math.MinInt64, -1, 0, 1, 3, 4, 6, 7, 11, 12, 13, 1<<32 + 11, greatest} {
		for _, x := range []api.Term{{}, v("x"), b(-1), withArgs(v("x"), b(0)), chain(100, v("x"))} {
			claims = append(claims, withTerms(made(op, p("p", x), made(op, within(1, p("p", x)))), x, x), withTerms(within(2, withTerms(made(op), x)), x))
		}
	}
	for _, pattern := range claims {
		for _, c := range claims {
			if said := asClaims(pattern, c).Changed(func() { Claim(pattern, c, justX()) }); said != "" {
				t.Error(said)
			}
		}
		checkClaim(t, pattern, pattern, nil, nil)
	}
}

// Terms and claims may be far larger and deeper than any right one.
func TestDeepAndLarge(t *testing.T) {
	const n = 1 << 16
	x, y, c, d := v("x"), v("y"), app("c"), app("d")
	checkTerm(t, chain(n, x), chain(n, c), justX(), list{to("x", c)})
	checkTerm(t, chain(n, x), chain(n+63, c), justX(), list{to("x", chain(63, c))})
	noTerm(t, chain(n, x), chain(n+64, c), justX())
	noTerm(t, chain(n, x), chain(n-1, c), justX())
	noTerm(t, chain(n, c), chain(n, d), justX())
	noTerm(t, x, chain(n, c), justX())
	checkClaim(t, within(n, p("p", x, b(n))), within(n, p("p", f(c), b(n))), justX(), list{to("x", f(c))})
	checkClaim(t, sample.Nots(n, p("p", x)), sample.Nots(n, p("p", c)), justX(), list{to("x", c)})
	noClaim(t, sample.Nots(n, p("p", x)), sample.Nots(n+1, p("p", c)), justX())
	checkMore(t, list{to("x", c)}, chain(n, f(x, y)), chain(n, f(c, d)), xAndY(), list{to("x", c), to("y", d)})
	noMore(t, list{to("x", chain(n, c))}, x, chain(n, c), justX())
	checkAny(t, c, chain(n, c), nil, c, nil)
	checkAny(t, chain(n, c), chain(n, c), nil, chain(n, c), nil)
	noAny(t, d, chain(n, c), nil)
	noAny(t, f(b(0)), chain(n, b(0)), nil)
	for _, m := range []int{100, 5000} {
		checkAny(t, x, chain(m, c), justX(), chain(63, c), list{to("x", chain(63, c))})
		checkAny(t, f(f(x)), chain(m, c), justX(), chain(65, c), list{to("x", chain(63, c))})
		noAny(t, x, chain(m, b(0)), justX())
	}
}

// There may be as many variables as the pattern has parts, and as many names besides.
func TestManyVariables(t *testing.T) {
	const n = 30000
	var all list
	var names []string
	var variables, terms []api.Term
	for i := range n {
		name := "x" + strconv.Itoa(100000+i)
		names, variables = append(names, name), append(variables, v(name), v(name))
		terms = append(terms, num(int64(i)), num(int64(i)))
		all = append(all, to(name, num(int64(i))))
	}
	slices.Reverse(variables)
	slices.Reverse(terms)
	checkTerm(t, f(variables...), f(terms...), names, all)
	checkClaim(t, within(1, p("p", variables...)), within(1, p("p", terms...)), names, all)
	for _, i := range []int{0, 1, n / 2, n} {
		checkMore(t, all[:i], f(variables...), f(terms...), names, all)
	}
	checkMore(t, all, app("d"), app("d"), names, all)
	wrong := slices.Clone(terms)
	wrong[len(wrong)-1] = num(n)
	noTerm(t, f(variables...), f(wrong...), names)
	noMore(t, all, f(variables...), f(wrong...), names)
	// Any looks for each part by all the names.
	checkAny(t, neg(v(names[0])), f(append(terms, neg(num(7)))...), names, neg(num(7)), list{to(names[0], num(7))})
	noAny(t, neg(v(names[0])), f(terms...), names)
	long := strings.Repeat("x", 1<<16)
	checkTerm(t, f(v(long), v(long+"y")), f(num(1), v(long+"y")), []string{long, long + "z"}, list{to(long, num(1))})
}
