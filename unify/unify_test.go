package unify

import (
	"math"
	"slices"
	"strconv"
	"strings"
	"testing"

	"sequitur/api"
	"sequitur/bind"
	"sequitur/claim"
	"sequitur/match"
	"sequitur/sample"
	"sequitur/subst"
	"sequitur/term"
)

// Short names for what the tests are full of.
var (
	v, num, app, b             = sample.Var, sample.Num, sample.App, sample.Bound
	add, sub, neg, mul         = sample.Add, sample.Sub, sample.Neg, sample.Mul
	p, eq, le, made            = sample.Pred, sample.Eq, sample.Le, sample.Made
	not, and, or, imp          = sample.Not, sample.And, sample.Or, sample.Imp
	iff, forAll, exists        = sample.Iff, sample.All, sample.Ex
	withArgs, withTerms        = sample.WithArgs, sample.WithTerms
	withSubs, termsOf          = sample.WithSubs, sample.TermsOf
	text, termText, listText   = sample.ClaimText, sample.TermText, sample.PairsText
	termTexts                  = sample.TermTexts
	asLists, asClaims, asTerms = sample.Lists, sample.Claims, sample.Terms
	to, chain, sized, within   = sample.Pair, sample.Chain, sample.SizedTerm, sample.Within
	hulls, rightHulls, renamed = sample.Hulls, sample.RightHulls, sample.Renamed
	wrongTerms, listsOf        = sample.WrongTerms, sample.Substitutions
)

type (
	list  = []api.Pair
	terms = []api.Term
)

const (
	least    = math.MinInt64
	greatest = math.MaxInt64
)

// Names that tests take for variables.
func justX() []string { return []string{"x"} }
func xAndY() []string { return []string{"x", "y"} }
func xyz() []string   { return []string{"x", "y", "z"} }

func f(l ...api.Term) api.Term { return app("f", l...) }
func g(l ...api.Term) api.Term { return app("g", l...) }

// What the chapter says, word by word, with nothing of the package in it: all bindings are applied at each step.

func wantBound(l list, x string, other api.Term) (list, api.Errno) {
	if slices.Contains(term.Names(other), x) {
		return nil, 15
	}
	if len(bind.LooseTerm(other)) > 0 {
		return nil, 13
	}
	return subst.Then(l, list{to(x, other)}), 0
}

func wantPair(l list, x, y api.Term, vars []string) (list, api.Errno) {
	x, y = subst.Apply(l, x), subst.Apply(l, y)
	variable := func(t api.Term) bool { return t.Op == 1 && slices.Contains(vars, t.Name) }
	switch {
	case variable(x) && variable(y) && x.Name == y.Name:
		return l, 0
	case variable(x):
		return wantBound(l, x.Name, y)
	case variable(y):
		return wantBound(l, y.Name, x)
	case x.Op != y.Op || x.Name != y.Name || x.Num != y.Num || len(x.Args) != len(y.Args):
		return nil, 14
	}
	return wantPairs(l, x.Args, y.Args, vars)
}

func wantPairs(l list, a, b terms, vars []string) (list, api.Errno) {
	for i := range a {
		var e api.Errno
		if l, e = wantPair(l, a[i], b[i], vars); e != 0 {
			return nil, e
		}
	}
	return l, 0
}

// wantUnified is what is left when all checks of the arguments are done.
func wantUnified(a, b terms, vars []string) (list, api.Errno) {
	l, e := wantPairs(nil, a, b, vars)
	for _, q := range l {
		if e := term.Right(q.Term); e != 0 {
			return nil, e
		}
	}
	return l, e
}

func wantTerms(a, b terms, vars []string) (list, api.Errno) {
	if len(a) != len(b) {
		return nil, 12
	}
	for _, l := range []terms{a, b} {
		for _, x := range l {
			if e := term.Right(x); e != 0 {
				return nil, e
			}
		}
	}
	return wantUnified(a, b, vars)
}

// framed tells whether a and b differ in their terms and the names of binders at most.
func framed(a, b api.Claim) bool {
	named := a.Name == b.Name || a.Op == 11 || a.Op == 12
	return a.Op == b.Op && named && a.Sort == b.Sort && len(a.Terms) == len(b.Terms) && slices.EqualFunc(a.Subs, b.Subs, framed)
}

func wantClaims(a, b api.Claim, vars []string) (list, api.Errno) {
	for _, c := range []api.Claim{a, b} {
		if e := claim.Right(c); e != 0 {
			return nil, e
		}
	}
	if !framed(a, b) {
		return nil, 14
	}
	return wantUnified(termsOf(a), termsOf(b), vars)
}

func wantIdempotent(l list) bool {
	for _, q := range l {
		if !term.Same(subst.Apply(l, q.Term), q.Term) {
			return false
		}
	}
	return true
}

// answer is what a call answers, as data.
func answer(l list, e api.Errno) sample.Data { return asLists(l).With(asTerms(num(int64(e)))) }

// check calls f with vars in two orders, once and twice, and holds its answer against want, and the arguments against what they were; none of them may share memory.
func check(t *testing.T, call string, f func(vars []string) sample.Data, want, arguments sample.Data, vars []string) {
	t.Helper()
	if said := sample.WrongBy(f, want, arguments, vars); said != "" {
		t.Errorf("%s: %s", call, said)
	}
}

// joined are the terms in claims of their own, at several levels of one claim.
func joined(l terms) api.Claim {
	c := p("end")
	for i, x := range slices.Backward(l) {
		c = []func() api.Claim{
			func() api.Claim { return and(p("p", x), c) },
			func() api.Claim { return forAll("x", "A", or(not(p("p", x)), c)) },
		}[i%2]()
	}
	return c
}

// holdTerms holds Terms against want, and Claims where it has to answer the same.
func holdTerms(t *testing.T, a, b terms, vars []string, want sample.Data) {
	t.Helper()
	check(t, "Terms", func(vars []string) sample.Data { return answer(Terms(a, b, vars)) }, want, asTerms(a...).With(asTerms(b...)), vars)
	if c, d := joined(a), joined(b); len(a) == len(b) && claim.Right(c) == 0 && claim.Right(d) == 0 {
		holdClaims(t, c, d, vars, want)
	}
}

func checkTerms(t *testing.T, a, b terms, vars []string, want list) {
	t.Helper()
	holdTerms(t, a, b, vars, answer(want, 0))
}

func failTerms(t *testing.T, a, b terms, vars []string, e api.Errno) {
	t.Helper()
	holdTerms(t, a, b, vars, answer(nil, e))
}

// followTerms holds Terms against the model.
func followTerms(t *testing.T, a, b terms, vars []string) api.Errno {
	t.Helper()
	l, e := wantTerms(a, b, vars)
	holdTerms(t, a, b, vars, answer(l, e))
	return e
}

func checkOne(t *testing.T, x, y api.Term, vars []string, want list) {
	t.Helper()
	checkTerms(t, terms{x}, terms{y}, vars, want)
}

func failOne(t *testing.T, x, y api.Term, vars []string, e api.Errno) {
	t.Helper()
	failTerms(t, terms{x}, terms{y}, vars, e)
}

// failBoth wants the same error either way round.
func failBoth(t *testing.T, x, y api.Term, vars []string, e api.Errno) {
	t.Helper()
	failOne(t, x, y, vars, e)
	failOne(t, y, x, vars, e)
}

func holdClaims(t *testing.T, a, b api.Claim, vars []string, want sample.Data) {
	t.Helper()
	check(t, "Claims", func(vars []string) sample.Data { return answer(Claims(a, b, vars)) }, want, asClaims(a, b), vars)
}

func checkClaims(t *testing.T, a, b api.Claim, vars []string, want list) {
	t.Helper()
	holdClaims(t, a, b, vars, answer(want, 0))
}

func failClaims(t *testing.T, a, b api.Claim, vars []string, e api.Errno) {
	t.Helper()
	holdClaims(t, a, b, vars, answer(nil, e))
}

// followClaims holds Claims against the model.
func followClaims(t *testing.T, a, b api.Claim, vars []string) api.Errno {
	t.Helper()
	l, e := wantClaims(a, b, vars)
	holdClaims(t, a, b, vars, answer(l, e))
	return e
}

func checkIdempotent(t *testing.T, l list, want bool) {
	t.Helper()
	var got bool
	if said := asLists(l).Changed(func() { got = Idempotent(l) }); said != "" || got != want {
		t.Errorf("%s: %v %s", listText(l), got, said)
	}
}

// Promise 12.1.

func TestTerms(t *testing.T) {
	x, y, z, c, d := v("x"), v("y"), v("z"), app("c"), app("d")
	checkOne(t, f(x, c), f(c, y), xAndY(), list{to("x", c), to("y", c)})
	failOne(t, x, f(x), xAndY(), api.ErrOccur)
	failOne(t, f(x), g(x), xAndY(), api.ErrUnify)
	failOne(t, x, y, nil, api.ErrUnify)
	// Either side may be a variable, or both: the left one is bound.
	checkOne(t, x, c, justX(), list{to("x", c)})
	checkOne(t, c, x, justX(), list{to("x", c)})
	checkOne(t, x, x, justX(), nil)
	checkOne(t, x, y, xAndY(), list{to("x", y)})
	checkOne(t, y, x, xAndY(), list{to("y", x)})
	checkOne(t, x, y, justX(), list{to("x", y)})
	checkOne(t, y, x, justX(), list{to("x", y)})
	checkOne(t, x, f(y, c), xAndY(), list{to("x", f(y, c))})
	checkOne(t, f(y, c), x, xAndY(), list{to("x", f(y, c))})
	checkOne(t, f(x, y), f(y, x), xAndY(), list{to("x", y)})
	checkOne(t, f(x, x), f(x, x), xAndY(), nil)
	checkOne(t, g(x, y), g(y, f(z)), xyz(), list{to("x", f(z)), to("y", f(z))})
	checkOne(t, add(x, mul(2, neg(y))), add(num(1), mul(2, neg(sub(x, c)))), xAndY(), list{to("x", num(1)), to("y", sub(num(1), c))})
	failOne(t, add(x, mul(2, y)), add(num(1), mul(3, y)), xAndY(), api.ErrUnify)
	// A variable that comes again, on either side.
	checkTerms(t, terms{x, x}, terms{c, c}, justX(), list{to("x", c)})
	checkTerms(t, terms{x, c}, terms{c, x}, justX(), list{to("x", c)})
	failTerms(t, terms{x, x}, terms{c, d}, justX(), api.ErrUnify)
	failTerms(t, terms{x, d}, terms{c, x}, justX(), api.ErrUnify)
	checkTerms(t, terms{x, x}, terms{y, c}, xAndY(), list{to("x", c), to("y", c)})
	checkTerms(t, terms{x, y}, terms{y, c}, xAndY(), list{to("x", c), to("y", c)})
	checkTerms(t, terms{x, c}, terms{y, x}, xAndY(), list{to("x", c), to("y", c)})
	checkTerms(t, terms{x, x}, terms{y, z}, xyz(), list{to("x", z), to("y", z)})
	checkTerms(t, terms{x, z}, terms{y, x}, xyz(), list{to("x", y), to("z", y)})
	checkTerms(t, terms{x, y}, terms{y, x}, xAndY(), list{to("x", y)})
	checkTerms(t, terms{x, x}, terms{f(y), f(z)}, xyz(), list{to("x", f(z)), to("y", z)})
	checkTerms(t, terms{f(y), f(z)}, terms{x, x}, xyz(), list{to("x", f(y)), to("z", y)})
	checkTerms(t, terms{x, f(z)}, terms{f(y), x}, xyz(), list{to("x", f(y)), to("z", y)})
	checkTerms(t, terms{x, x}, terms{f(y, z), f(z, c)}, xyz(), list{to("x", f(c, c)), to("y", c), to("z", c)})
	checkTerms(t, terms{f(x), x, y, z}, terms{f(f(y)), f(f(z)), f(c), z}, xyz(), list{to("x", f(f(c))), to("y", f(c)), to("z", c)})
}

// There may be no pair, and as many variables as there are.
func TestVars(t *testing.T) {
	x, y, c := v("x"), v("y"), app("c")
	for _, vars := range [][]string{nil, {}, {"w"}, {"xx", "X", "", "x\x00", "\xff"}, {"c", "f"}} {
		for _, l := range []terms{nil, {}} {
			checkTerms(t, nil, l, vars, nil)
			checkTerms(t, l, terms{}, vars, nil)
		}
		checkOne(t, f(x, c), f(x, c), vars, nil)
		failBoth(t, x, y, vars, api.ErrUnify)
		failBoth(t, x, c, vars, api.ErrUnify)
		failBoth(t, x, f(x), vars, api.ErrUnify)
		failBoth(t, f(c, x), f(c, y), vars, api.ErrUnify)
		checkOne(t, f(c, x), f(c, y), append(vars, "x"), list{to("x", y)})
		checkOne(t, f(c, x), f(c, y), append(vars, "y"), list{to("y", x)})
		checkOne(t, f(c, x), f(y, y), append(vars, "x", "y"), list{to("x", c), to("y", c)})
		checkOne(t, f(c, x), f(y, y), append(vars, "y", "x", "y", "z", "x", "y"), list{to("x", c), to("y", c)})
		failBoth(t, f(c, x), f(y, y), append(vars, "x"), api.ErrUnify)
		failBoth(t, f(c, x), f(y, y), append(vars, "y"), api.ErrUnify)
		failBoth(t, x, f(x, y), append(vars, "y"), api.ErrUnify)
	}
	names := []string{"y", "x", "", "\xff", "X", "xx", "x'", "x\x00"}
	var vars, numbers terms
	for i, name := range names {
		vars, numbers = append(vars, v(name)), append(numbers, num(int64(i)))
	}
	want := list{to("", num(2)), to("X", num(4)), to("x", num(1)), to("x\x00", num(7)), to("x'", num(6)), to("xx", num(5)), to("y", num(0)), to("\xff", num(3))}
	checkTerms(t, vars, numbers, names, want)
	checkTerms(t, numbers, vars, names, want)
	for i, name := range names {
		one := slices.Clone(vars)
		one[i] = c
		checkTerms(t, vars, one, []string{name}, list{to(name, c)})
		checkTerms(t, one, vars, []string{name}, list{to(name, c)})
	}
}

// A function with the name of a variable is none.
func TestNamesakes(t *testing.T) {
	x, c := v("x"), app("c")
	checkOne(t, x, app("x"), justX(), list{to("x", app("x"))})
	checkOne(t, app("x"), x, justX(), list{to("x", app("x"))})
	checkOne(t, app("x", x), app("x", c), justX(), list{to("x", c)})
	checkOne(t, f(x, app("x")), f(app("x"), x), justX(), list{to("x", app("x"))})
	failBoth(t, app("x"), c, []string{"c", "x"}, api.ErrUnify)
	failBoth(t, x, app("x"), nil, api.ErrUnify)
	failBoth(t, x, app("x", x), justX(), api.ErrOccur)
}

func TestOccur(t *testing.T) {
	x, y, z, c := v("x"), v("y"), v("z"), app("c")
	for _, hull := range rightHulls() {
		for _, inner := range append(rightHulls(), func(t api.Term) api.Term { return t }) {
			// Directly.
			failBoth(t, x, hull(inner(x)), justX(), api.ErrOccur)
			failBoth(t, f(c, x), f(c, hull(inner(x))), justX(), api.ErrOccur)
			failBoth(t, g(hull(x), c), g(hull(inner(hull(x))), c), justX(), api.ErrOccur)
			// By way of bindings found before.
			for _, pair := range []terms{{x, hull(inner(y))}, {hull(inner(y)), x}} {
				for _, other := range []terms{{y, inner(x)}, {inner(x), y}, {y, hull(x)}, {f(c, x), f(c, y)}, {f(y), f(x)}} {
					failTerms(t, terms{pair[0], other[0]}, terms{pair[1], other[1]}, xAndY(), api.ErrOccur)
				}
			}
			failTerms(t, terms{x, y, z}, terms{hull(y), z, inner(x)}, xyz(), api.ErrOccur)
			failTerms(t, terms{x, y, z}, terms{y, z, hull(inner(x))}, xyz(), api.ErrOccur)
			failTerms(t, terms{x, x}, terms{y, hull(inner(y))}, xAndY(), api.ErrOccur)
			failTerms(t, terms{x, x}, terms{hull(y), hull(inner(f(y)))}, xAndY(), api.ErrOccur)
		}
	}
	failBoth(t, x, chain(63, x), justX(), api.ErrOccur)
	// A variable that is none does not matter, nor does one that is not bound.
	checkOne(t, x, f(y, y), justX(), list{to("x", f(y, y))})
	checkTerms(t, terms{x, y}, terms{f(z), f(z)}, xyz(), list{to("x", f(z)), to("y", f(z))})
	checkTerms(t, terms{x, f(y)}, terms{f(y), x}, xAndY(), list{to("x", f(y))})
	checkTerms(t, terms{x, f(x)}, terms{y, f(y)}, xAndY(), list{to("x", y)})
}

// Circles of any length, whichever pair comes last.
func TestCircles(t *testing.T) {
	for n := 2; n <= 7; n++ {
		var names []string
		var a, b terms
		for i := range n {
			names = append(names, "x"+strconv.Itoa(i))
			a, b = append(a, v("x"+strconv.Itoa(i))), append(b, f(v("x"+strconv.Itoa((i+1)%n))))
		}
		for range n {
			a, b = append(a[1:n:n], a[0]), append(b[1:n:n], b[0])
			failTerms(t, a, b, names, api.ErrOccur)
			failTerms(t, b, a, names, api.ErrOccur)
			if l, e := Terms(a[1:], b[1:], names); e != 0 || len(l) != n-1 {
				t.Error(n, e, listText(l))
			}
			failTerms(t, append(a[:n:n], app("c")), append(b[:n:n], app("d")), names, api.ErrOccur)
		}
	}
}

func TestLooseNumbers(t *testing.T) {
	x, y, c := v("x"), v("y"), app("c")
	for _, n := range []int64{0, 1, 2, greatest} {
		checkOne(t, b(n), b(n), nil, nil)
		failOne(t, b(n), b((n+1)&greatest), justX(), api.ErrUnify)
		failBoth(t, b(n), num(n), justX(), api.ErrUnify)
		failBoth(t, x, b(n), justX(), api.ErrBound)
		failBoth(t, x, b(n), nil, api.ErrUnify)
		failTerms(t, terms{x, y}, terms{y, b(n)}, xAndY(), api.ErrBound)
		failTerms(t, terms{x, x}, terms{y, b(n)}, xAndY(), api.ErrBound)
		failTerms(t, terms{x, b(n)}, terms{c, x}, xAndY(), api.ErrUnify)
		for _, hull := range rightHulls() {
			checkOne(t, hull(b(n)), hull(b(n)), justX(), nil)
			checkOne(t, f(x, hull(b(n))), f(c, hull(b(n))), justX(), list{to("x", c)})
			failBoth(t, x, hull(b(n)), justX(), api.ErrBound)
			failBoth(t, hull(x), hull(b(n)), justX(), api.ErrBound)
			failBoth(t, x, f(c, hull(hull(b(n)))), justX(), api.ErrBound)
			// The variable in the other side counts ahead of the loose number there, wherever both stand.
			failBoth(t, x, f(x, hull(b(n))), justX(), api.ErrOccur)
			failBoth(t, x, f(hull(b(n)), x), justX(), api.ErrOccur)
			failBoth(t, x, f(b(n), hull(x)), justX(), api.ErrOccur)
			failTerms(t, terms{y, x}, terms{hull(x), f(b(n), y)}, xAndY(), api.ErrOccur)
			failTerms(t, terms{x, y, f(hull(y), b(n))}, terms{y, y, x}, xAndY(), api.ErrOccur)
		}
	}
	// No binding has a loose number, so that none comes by way of one.
	failTerms(t, terms{x, y}, terms{f(b(0)), x}, xAndY(), api.ErrBound)
	checkTerms(t, terms{y, f(x, b(0))}, terms{c, f(y, b(0))}, xAndY(), list{to("x", c), to("y", c)})
}

// failing are pairs that fail, each in its way, and pairs that do not; of what number i they are, no other pair knows.
func failing(i int) map[api.Errno][]terms {
	x, y := v("x"+strconv.Itoa(i)), v("y"+strconv.Itoa(i))
	return map[api.Errno][]terms{
		api.OK:       {{x, y}, {f(x, app("c")), f(app("d"), y)}, {b(0), b(0)}},
		api.ErrUnify: {{app("c"), app("d")}, {f(x, num(1)), f(y, num(2))}, {g(f(y)), g(g(y))}},
		api.ErrOccur: {{x, f(x)}, {f(f(y), x), f(x, y)}, {x, f(b(0), x)}},
		api.ErrBound: {{x, b(0)}, {f(app("c"), f(b(1), b(0))), f(y, x)}, {x, f(y, b(0))}},
	}
}

// The first failure counts, whatever fails behind it.
func TestFirstFailure(t *testing.T) {
	vars := []string{"x0", "x1", "x2", "y0", "y1", "y2"}
	errors := []api.Errno{api.OK, api.ErrUnify, api.ErrOccur, api.ErrBound}
	for _, first := range errors {
		for _, second := range errors {
			for _, third := range errors {
				want := third
				if second != 0 {
					want = second
				}
				if first != 0 {
					want = first
				}
				for i := range 27 {
					one, two, three := failing(0)[first][i%3], failing(1)[second][i/3%3], failing(2)[third][i/9]
					a, b := terms{one[0], two[1], three[0]}, terms{one[1], two[0], three[1]}
					for _, l := range [][2]terms{{a, b}, {b, a}, {terms{g(a...)}, terms{g(b...)}}, {terms{a[0], g(a[1:]...)}, terms{b[0], g(b[1:]...)}}} {
						if e := followTerms(t, l[0], l[1], vars); e != want {
							t.Error(first, second, third, i, e)
						}
					}
				}
			}
		}
	}
}

// differing are right terms without variables, no two of which are the same.
func differing() []api.Term {
	c, d := app("c"), app("d")
	l := []api.Term{v("w"), v("w'"), v(""), app("w"), app(""), c, d, b(0), b(1), b(greatest), num(0), num(1), num(-1), num(least), num(greatest)}
	for _, x := range []api.Term{c, d} {
		l = append(l, f(x), g(x), neg(x), mul(0, x), mul(1, x), mul(-2, x), f(x, c), f(x, d), add(x, c), add(x, d), sub(x, c), f(f(x)), f(neg(x)), neg(f(x)), f(x, c, c))
	}
	for n := range 9 {
		l = append(l, app("many", slices.Repeat(terms{c}, n)...))
	}
	return l
}

func TestDifferences(t *testing.T) {
	x, c := v("x"), app("c")
	for i, one := range differing() {
		for j, other := range differing() {
			want, bound := answer(nil, api.ErrUnify), answer(nil, api.ErrUnify)
			if i == j {
				want, bound = answer(nil, 0), answer(list{to("x", c)}, 0)
			}
			holdTerms(t, terms{one}, terms{other}, justX(), want)
			holdTerms(t, terms{f(x, one)}, terms{f(c, other)}, justX(), bound)
			holdTerms(t, terms{f(one), x}, terms{f(other), c}, justX(), bound)
			if (i+j)%6 == 0 {
				hull := rightHulls()[(i+j)/6%7]
				holdTerms(t, terms{hull(one)}, terms{hull(other)}, nil, want)
				holdTerms(t, terms{c, x, f(x, x)}, terms{x, c, g(hull(one))}, justX(), answer(nil, api.ErrUnify))
				followTerms(t, terms{x, x}, terms{hull(one), hull(other)}, justX())
			}
		}
	}
}

// ErrArity is ahead of all other errors, then the terms of a from the first one on, then those of b.
func TestFirstError(t *testing.T) {
	x, c, d := v("x"), app("c"), app("d")
	for n := range 4 {
		for m := range 4 {
			if n != m {
				failTerms(t, slices.Repeat(terms{c}, n), slices.Repeat(terms{c}, m), nil, api.ErrArity)
				failTerms(t, slices.Repeat(terms{{}}, n), slices.Repeat(terms{x}, m), justX(), api.ErrArity)
				failTerms(t, slices.Repeat(terms{x}, n), slices.Repeat(terms{chain(64, c)}, m), justX(), api.ErrArity)
			}
		}
	}
	for e, wrong := range wrongTerms() {
		failBoth(t, wrong, wrong, justX(), e)
		failBoth(t, wrong, x, justX(), e)
		failBoth(t, wrong, c, nil, e)
		failTerms(t, terms{c, wrong}, terms{d, x}, justX(), e)
		failTerms(t, terms{c, x}, terms{d, wrong}, justX(), e)
		failTerms(t, terms{x, x, wrong}, terms{f(x), b(0), c}, justX(), e)
		failTerms(t, terms{x, x, c}, terms{f(x), b(0), wrong}, justX(), e)
		for other, second := range wrongTerms() {
			failTerms(t, terms{wrong}, terms{second}, justX(), e)
			failTerms(t, terms{c, wrong}, terms{second, c}, justX(), e)
			failTerms(t, terms{wrong, second}, terms{c, d}, justX(), e)
			failTerms(t, terms{c, c, x}, terms{d, wrong, second}, justX(), e)
			failTerms(t, terms{second, c, x}, terms{wrong, c, x}, justX(), other)
		}
	}
	failOne(t, withArgs(x, c), c, justX(), api.ErrArity)
	failOne(t, c, api.Term{Op: api.TVar, Name: "x", Num: 1}, justX(), api.ErrForm)
	failOne(t, x, b(-1), justX(), api.ErrForm)
	checkOne(t, chain(63, x), chain(63, c), justX(), list{to("x", c)})
	checkOne(t, sized(4096), sized(4096), []string{"y"}, nil)
}

// sum is a term of n parts without variables.
func sum(n int) api.Term {
	return subst.Apply(list{to("x", app("c"))}, sized(n))
}

// Bindings that are too deep or too long only with all of them applied.
func TestLimits(t *testing.T) {
	x, y, z, c := v("x"), v("y"), v("z"), app("c")
	for n := 20; n <= 40; n++ {
		a, b := terms{x, y}, terms{chain(n, y), chain(30, c)}
		for _, l := range [][2]terms{{a, b}, {b, a}, {terms{y, x}, terms{b[1], b[0]}}} {
			if n+30 < 64 {
				checkTerms(t, l[0], l[1], xAndY(), list{to("x", chain(n+30, c)), to("y", chain(30, c))})
			} else {
				failTerms(t, l[0], l[1], xAndY(), api.ErrDeep)
			}
		}
	}
	for n := 500; n <= 520; n++ {
		a, b := terms{x, y}, terms{app("h", sample.Vars(8, "y")...), sum(n)}
		if 8*n+1 <= 4096 {
			checkTerms(t, a, b, xAndY(), list{to("x", app("h", slices.Repeat(terms{sum(n)}, 8)...)), to("y", sum(n))})
		} else {
			failTerms(t, a, b, xAndY(), api.ErrLong)
		}
		followTerms(t, terms{x, y, z}, terms{f(y, z, y), sum(4 * n), sum(4095 - 8*n)}, xyz())
	}
	// A bound variable in between does not count, nor does one with another name.
	checkTerms(t, terms{x, y, z}, terms{y, z, chain(63, c)}, xyz(), list{to("x", chain(63, c)), to("y", chain(63, c)), to("z", chain(63, c))})
	checkTerms(t, terms{x, y}, terms{y, sum(4096)}, xAndY(), list{to("x", sum(4096)), to("y", sum(4096))})
	checkTerms(t, terms{x, chain(40, y)}, terms{chain(40, y), x}, xAndY(), list{to("x", chain(40, y))})
	// A failure comes ahead of it, and what is only looked at may be of any size.
	failTerms(t, terms{x, y, c}, terms{chain(40, y), chain(40, c), num(1)}, xAndY(), api.ErrUnify)
	failTerms(t, terms{x, y, z}, terms{chain(40, y), chain(40, c), b(0)}, xyz(), api.ErrBound)
	failTerms(t, terms{x, y, z}, terms{chain(40, y), chain(40, z), x}, xyz(), api.ErrOccur)
	failTerms(t, terms{x, y, x}, terms{chain(40, y), chain(40, c), chain(60, num(1))}, xAndY(), api.ErrUnify)
	failTerms(t, terms{x, y, x}, terms{chain(40, y), chain(40, c), chain(60, num(1))}, justX(), api.ErrUnify)
}

// The first bound variable by name counts.
func TestFirstLimit(t *testing.T) {
	deep, long := chain(40, v("m")), app("h", slices.Repeat(terms{v("n")}, 8)...)
	both := f(deep, long)
	for e, want := range map[string]api.Errno{"deep": api.ErrDeep, "long": api.ErrLong, "both": api.ErrDeep} {
		of := map[string]api.Term{"deep": deep, "long": long, "both": both}
		for other, second := range of {
			for _, names := range [][]string{{"a", "b"}, {"", "a"}, {"o", "oo"}, {"a", "\xff"}, {"l", "z"}} {
				a, b := terms{v(names[0]), v(names[1]), v("m"), v("n")}, terms{of[e], second, chain(40, app("c")), sum(600)}
				vars := append(names, "m", "n")
				failTerms(t, a, b, vars, want)
				slices.Reverse(a)
				slices.Reverse(b)
				failTerms(t, a, b, vars, want)
				if other == e {
					failTerms(t, b, a, vars, want)
				}
			}
		}
		// One that is right may stand ahead of it.
		failTerms(t, terms{v("a"), v("b"), v("m"), v("n")}, terms{f(v("m")), of[e], chain(40, app("c")), sum(600)}, []string{"a", "b", "m", "n"}, want)
		failTerms(t, terms{v("z"), v("m"), v("n")}, terms{of[e], chain(40, app("c")), sum(600)}, []string{"m", "n", "z"}, want)
	}
}

// Promise 12.2.

func TestClaims(t *testing.T) {
	x, y, z, c, d := v("x"), v("y"), v("z"), app("c"), app("d")
	checkClaims(t, sample.True(), sample.True(), xAndY(), nil)
	checkClaims(t, p("p"), p("p"), nil, nil)
	failClaims(t, p("p"), p("q"), nil, api.ErrUnify)
	failClaims(t, p("x"), p("y"), xAndY(), api.ErrUnify)
	checkClaims(t, p("p", x, c), p("p", d, y), xAndY(), list{to("x", d), to("y", c)})
	failClaims(t, p("p", x), p("p", y), nil, api.ErrUnify)
	failClaims(t, eq(x, y), eq(y, f(x)), xAndY(), api.ErrOccur)
	checkClaims(t, imp(le(x, y), not(eq(z, c))), imp(le(num(1), x), not(eq(f(y), c))), xyz(), list{to("x", num(1)), to("y", num(1)), to("z", f(num(1)))})
	// Part by part in preorder, the Terms of a part in their order.
	checkClaims(t, and(p("p", x), p("p", f(y))), and(p("p", f(z)), p("p", x)), xyz(), list{to("x", f(z)), to("y", z)})
	checkClaims(t, and(p("p", f(y)), p("p", x)), and(p("p", x), p("p", f(z))), xyz(), list{to("x", f(z)), to("y", z)})
	failClaims(t, iff(eq(x, c), p("p", c)), iff(eq(f(x), d), p("p", d)), justX(), api.ErrOccur)
	failClaims(t, iff(eq(c, x), p("p", c)), iff(eq(d, f(x)), p("p", d)), justX(), api.ErrUnify)
	failClaims(t, and(or(p("p"), p("p", x)), p("p", x)), and(or(p("p"), p("p", b(0))), p("p", f(x))), justX(), api.ErrBound)
	failClaims(t, and(or(p("p"), p("p", x)), p("p", x)), and(or(p("p"), p("p", f(x))), p("p", b(0))), justX(), api.ErrOccur)
	// Too deep and too long.
	failClaims(t, eq(x, y), eq(chain(40, y), chain(40, c)), xAndY(), api.ErrDeep)
	failClaims(t, eq(x, y), eq(app("h", sample.Vars(8, "y")...), sum(600)), xAndY(), api.ErrLong)
	checkClaims(t, sample.Heavy(4096), sample.Heavy(4096), justX(), nil)
}

// The names of binders do not matter; what is bound is a number, and loose in its term.
func TestClaimsWithBinders(t *testing.T) {
	x, y, c := v("x"), v("y"), app("c")
	checkClaims(t, forAll("u", "A", p("p", x)), forAll("w", "A", p("p", c)), justX(), list{to("x", c)})
	failClaims(t, forAll("u", "A", p("p", x)), forAll("u", "B", p("p", x)), justX(), api.ErrUnify)
	failClaims(t, forAll("u", "A", p("p", x)), exists("u", "A", p("p", x)), justX(), api.ErrUnify)
	failClaims(t, forAll("x", "A", p("p", x)), forAll("x", "A", p("p", b(0))), justX(), api.ErrBound)
	failClaims(t, p("p", b(0)), forAll("u", "A", p("p", b(0))), justX(), api.ErrUnify)
	for k := range 5 {
		one, other := and(p("p", y), within(k, p("p", x, b(0), f(y)))), and(p("p", f(x)), within(k, p("p", f(c), b(0), f(f(f(c))))))
		for _, name := range []string{"", "x", "y", "c", "u", "\xff"} {
			for _, second := range []string{"", "x", "y", "z"} {
				checkClaims(t, renamed(one, name, second), renamed(other, second), xAndY(), list{to("x", f(c)), to("y", f(f(c)))})
				checkClaims(t, renamed(other, name), renamed(one, second, "x"), []string{"u", "x", "y", "z"}, list{to("x", f(c)), to("y", f(f(c)))})
			}
		}
		for n := range int64(k + 2) {
			failClaims(t, within(k, p("p", x)), within(k, p("p", b(n))), justX(), api.ErrBound)
			failClaims(t, within(k, p("p", f(b(n)))), within(k, p("p", x)), justX(), api.ErrBound)
			failClaims(t, within(k, p("p", x)), within(k, p("p", f(x, b(n)))), justX(), api.ErrOccur)
			checkClaims(t, within(k, p("p", b(n), x)), within(k, p("p", b(n), c)), justX(), list{to("x", c)})
			failClaims(t, within(k, p("p", b(n), x)), within(k, p("p", b(n+1), c)), justX(), api.ErrUnify)
		}
	}
}

// differingClaims are right claims, any two of which differ in more than terms and the names of binders.
func differingClaims() []api.Claim {
	x, c := v("x"), app("c")
	l := []api.Claim{sample.True(), sample.False(), eq(x, c), le(x, c)}
	for _, name := range []string{"", "p", "q", "x"} {
		for n := range 4 {
			l = append(l, p(name, sample.Vars(n, "x")...))
		}
	}
	for _, a := range []api.Claim{sample.True(), p("p", x), p("p", x, x), not(p("p", x)), and(p("p", x), sample.True())} {
		l = append(l, not(not(a)), forAll("x", "A", a), forAll("x", "B", a), forAll("x", "", a), exists("x", "A", a), exists("x", "B", not(a)))
		for op := 7; op <= 10; op++ {
			l = append(l, made(op, a, p("q")), made(op, p("q"), a), made(op, p("r"), not(a)))
		}
	}
	return l
}

func TestDifferencesOfClaims(t *testing.T) {
	x, y, c := v("x"), v("y"), app("c")
	of := func(to api.Term, a api.Claim) api.Claim { return subst.ApplyClaim(list{{Name: "x", Term: to}}, a) }
	for i, one := range differingClaims() {
		for j, other := range differingClaims() {
			want := answer(nil, api.ErrUnify)
			if i == j {
				want = answer(nil, 0)
			}
			holdClaims(t, one, other, justX(), want)
			holdClaims(t, within(i%3, and(p("p"), one)), within(i%3, and(p("p"), other)), nil, want)
			if i == j && len(termsOf(one)) > 0 {
				want = answer(list{to("y", f(c))}, 0)
			}
			holdClaims(t, of(y, one), of(f(c), other), xAndY(), want)
			if i != j {
				// The terms are not looked at then.
				failClaims(t, and(p("p", y), or(p("p", y), of(y, one))), and(p("p", f(y)), or(p("p", b(0)), of(x, other))), xAndY(), api.ErrUnify)
			}
		}
	}
}

// wrongClaims has claims with each error, some by their terms.
func wrongClaims() map[api.Errno][]api.Claim {
	x := v("x")
	l := map[api.Errno][]api.Claim{
		api.ErrDeep:  {sample.Nots(64, sample.True()), within(64, p("p", x))},
		api.ErrLong:  {sample.SizedClaim(4097), sample.Heavy(4097), eq(sized(2048), sized(2048))},
		api.ErrForm:  {{}, {Op: 13}, made(-1), api.Claim{Op: api.CEq, Name: "p", Terms: terms{x, x}}, api.Claim{Op: api.CPred, Sort: "A"}},
		api.ErrArity: {p("p", sample.Vars(9, "x")...), made(api.CNot), made(api.CAnd, p("p")), withTerms(sample.True(), x), withSubs(eq(x, x), p("p")), made(api.CAll, p("p"), p("p"))},
	}
	for e, wrong := range wrongTerms() {
		if e != api.ErrLong {
			l[e] = append(l[e], p("p", wrong), eq(x, wrong))
		}
	}
	for e := range l {
		for _, c := range slices.Clone(l[e]) {
			l[e] = append(l[e], and(p("p", b(0)), forAll("u", "A", c)), or(c, p("p", x)))
		}
	}
	return l
}

func TestWrongClaims(t *testing.T) {
	x, whole := v("x"), and(p("p", v("x")), p("q"))
	for e, wrong := range wrongClaims() {
		for _, c := range wrong {
			if got := claim.Right(c); got != e {
				t.Fatal(text(c), got, e)
			}
			failClaims(t, c, whole, justX(), e)
			failClaims(t, whole, c, justX(), e)
			failClaims(t, c, c, nil, e)
			failClaims(t, and(p("p", x), c), and(p("q", f(x)), p("p")), justX(), claim.Right(and(p("p", x), c)))
			for _, l := range wrongClaims() {
				for _, other := range l {
					failClaims(t, c, other, justX(), e)
				}
			}
		}
	}
}

func TestIdempotent(t *testing.T) {
	x, y, c := v("x"), v("y"), app("c")
	checkIdempotent(t, nil, true)
	checkIdempotent(t, list{}, true)
	checkIdempotent(t, list{to("x", c)}, true)
	checkIdempotent(t, list{to("x", y)}, true)
	checkIdempotent(t, list{to("x", x)}, true)
	checkIdempotent(t, list{to("x", f(x))}, false)
	checkIdempotent(t, list{to("x", y), to("y", x)}, false)
	checkIdempotent(t, list{to("x", y), to("y", y)}, true)
	checkIdempotent(t, list{to("x", y), to("y", c)}, false)
	checkIdempotent(t, list{to("y", c), to("x", y)}, false)
	checkIdempotent(t, list{to("x", f(c, y)), to("z", f(y))}, true)
	checkIdempotent(t, list{to("x", f(c, y)), to("z", f(y, x))}, false)
	// A function is no variable, and a loose number stays what it is.
	checkIdempotent(t, list{to("c", x), to("f", y), to("x", f(c, b(0)))}, false)
	checkIdempotent(t, list{to("c", y), to("f", y), to("x", f(c, b(0))), to("", b(3))}, true)
	// Of a name that stands there twice the first pair counts, but the term of each is looked at.
	checkIdempotent(t, list{to("x", c), to("x", y)}, true)
	checkIdempotent(t, list{to("x", c), to("x", x)}, false)
	checkIdempotent(t, list{to("x", x), to("x", f(x))}, true)
	checkIdempotent(t, list{to("x", f(x)), to("x", c)}, false)
	checkIdempotent(t, list{to("x", y), to("y", y), to("y", f(y))}, true)
	checkIdempotent(t, list{to("x", y), to("y", c), to("y", y)}, false)
	checkIdempotent(t, list{to("y", y), to("y", c), to("x", f(y))}, true)
	for _, hull := range hulls() {
		checkIdempotent(t, list{to("x", hull(y)), to("z", hull(hull(c)))}, true)
		checkIdempotent(t, list{to("x", hull(hull(x)))}, false)
		checkIdempotent(t, list{to("x", c), to("z", hull(x))}, false)
		checkIdempotent(t, list{to("x", x), to("z", hull(x))}, true)
		// A variable with Args becomes another term with them.
		checkIdempotent(t, list{to("x", x), to("z", hull(withArgs(x, c)))}, false)
		checkIdempotent(t, list{to("x", withArgs(x, c)), to("z", hull(withArgs(x, c)))}, true)
		checkIdempotent(t, list{to("x", withArgs(x, c)), to("z", hull(x))}, false)
		checkIdempotent(t, list{to("x", withArgs(x, x, y)), to("y", c), to("z", hull(withArgs(x, x, y)))}, true)
	}
}

func TestIdempotentFollowsTheChapter(t *testing.T) {
	x, y, c := v("x"), v("y"), app("c")
	found := map[bool]int{}
	all := append(listsOf(2, []string{"", "x", "y", "f"}, terms{x, y, c, v(""), f(x), f(y, c), b(0), withArgs(x, y), withArgs(y, y), {Op: 1, Name: "x", Num: 2}, {Op: 9, Name: "x", Args: terms{y}}}), listsOf(3, xyz(), terms{x, y, c, f(v("z")), f(f(c), y)})...)
	for _, l := range all {
		want := wantIdempotent(l)
		checkIdempotent(t, l, want)
		found[want]++
	}
	if min(found[true], found[false]) < 500 {
		t.Error(found)
	}
}

// All calls against the model, for all of a small set.

// put are right terms made of all of these leaves.
func put(leaves ...api.Term) []api.Term {
	l := slices.Clone(leaves)
	for _, x := range leaves {
		l = append(l, f(x), mul(2, x), f(f(x)))
		for _, y := range leaves {
			l = append(l, g(x, y))
		}
	}
	return append(l, num(2), g(leaves[0], g(leaves[1], leaves[0])), g(f(leaves[1]), f(leaves[0])), g(g(leaves[0], leaves[1]), g(leaves[1], leaves[0])), g(f(leaves[0]), leaves[0]))
}

func someTerms() []api.Term { return put(v("x"), v("y"), v("z"), app("c"), b(0)) }

func someVars() [][]string {
	return [][]string{nil, justX(), {"y"}, xAndY(), xyz(), {"c", "f", "w"}}
}

// enough fails if one of the answers was found too seldom.
func enough(t *testing.T, found map[api.Errno]int, least int) {
	t.Helper()
	for _, e := range []api.Errno{api.OK, api.ErrBound, api.ErrUnify, api.ErrOccur} {
		if found[e] < least {
			t.Error("too few answers of a kind:", found)
		}
	}
}

func TestTermsFollowTheChapter(t *testing.T) {
	found := map[api.Errno]int{}
	for _, x := range someTerms() {
		for _, y := range someTerms() {
			for _, vars := range someVars() {
				found[followTerms(t, terms{x}, terms{y}, vars)]++
			}
		}
	}
	few := []api.Term{v("x"), v("y"), v("z"), f(v("x")), f(f(v("y"))), g(v("x"), v("z")), g(v("y"), app("c")), f(b(0))}
	for i, l := 0, listsOf(4, []string{""}, few); i < len(l); i += 2 {
		if m := l[i]; len(m) == 4 {
			a, b := terms{m[0].Term, m[1].Term}, terms{m[2].Term, m[3].Term}
			found[followTerms(t, a, b, xyz())]++
			found[followTerms(t, a, b, xAndY())]++
		}
	}
	enough(t, found, 400)
}

// scatteredTerm is a right term of at most that depth.
func scatteredTerm(next func(n int) int, depth int) api.Term {
	if depth == 1 || next(4) == 0 {
		if i := next(9); i < 7 {
			return v([]string{"x", "y", "z", "u", "w", "x'", "y'"}[i])
		}
		return []api.Term{app("c"), num(int64(next(2))), b(int64(next(2)))}[next(20)/7]
	}
	x, y := scatteredTerm(next, depth-1), scatteredTerm(next, depth-1)
	return []api.Term{f(x), g(x, y), g(y, x), add(x, y), f(y)}[next(5)]
}

// Longer lists of greater terms with more variables.
func TestScatteredTermsFollowTheChapter(t *testing.T) {
	found := map[api.Errno]int{}
	next := sample.Scattered(12)
	for range 20000 {
		var a, b terms
		for range 1 + next(5) {
			a, b = append(a, scatteredTerm(next, 1+next(4))), append(b, scatteredTerm(next, 1+next(4)))
		}
		found[followTerms(t, a, b, []string{"x", "y", "z", "u", "x'", "y'"}[:next(7)])]++
	}
	enough(t, found, 200)
}

// someClaims are small right claims of terms made of these leaves, two of them at a time, within up to two binders.
func someClaims(leaves ...api.Term) []api.Claim {
	l := []api.Claim{sample.True(), p("x")}
	all := put(leaves...)
	for i, x := range all {
		y := all[(7*i+3)%len(all)]
		l = append(l, eq(x, y), within(1, eq(y, x)), and(p("q", x, y), within(2, or(le(x, b(1)), p("r")))), iff(p("p", x), forAll("x", "A", imp(p("p", y), exists("y", "B", eq(x, b(1)))))))
	}
	return l
}

func TestClaimsFollowTheChapter(t *testing.T) {
	found := map[api.Errno]int{}
	for i, c := range someClaims(v("x"), v("y"), app("c"), b(0)) {
		for _, d := range someClaims(v("y"), v("x"), v("z")) {
			if c.Op != d.Op && i%7 > 0 {
				continue
			}
			for _, vars := range someVars()[:5] {
				found[followClaims(t, c, d, vars)]++
			}
		}
	}
	enough(t, found, 200)
}

// Promise 12.3.

// unifies tells whether l makes a and b the same.
func unifies(l list, a, b terms) bool {
	return slices.EqualFunc(a, b, func(x, y api.Term) bool { return term.Same(subst.Apply(l, x), subst.Apply(l, y)) })
}

// obtained tells whether m, which knows no other variables, does what l and then another substitution do.
func obtained(m, l list, vars []string) bool {
	var all terms
	for _, name := range vars {
		all = append(all, v(name))
	}
	_, ok := match.Term(subst.Apply(l, app("all", all...)), subst.Apply(m, app("all", all...)), vars)
	return ok
}

// puts are right terms without loose numbers that are put for variables.
func puts() terms {
	x, y, c := v("x"), v("y"), app("c")
	return terms{x, y, c, f(x), f(y), f(c), g(x, y), mul(2, c), f(f(c)), g(f(c), f(c))}
}

// substitutions are all ways to put terms for the names, which increase; one that is left out stays as it is.
func substitutions(names []string) []list {
	return slices.DeleteFunc(listsOf(len(names), names, puts()), func(l list) bool { return subst.Right(l) != api.OK })
}

// checkGeneral holds what unifying answered against the substitutions of vars.
func checkGeneral(t *testing.T, a, b terms, vars []string, all []list, l list, e api.Errno) (unifiers int) {
	t.Helper()
	if e == 0 && (subst.Right(l) != 0 || !unifies(l, a, b) || !Idempotent(l) || !wantIdempotent(l) || slices.ContainsFunc(l, func(q api.Pair) bool { return !slices.Contains(vars, q.Name) })) {
		t.Errorf("%s and %s by %q: %s", termTexts(a), termTexts(b), vars, listText(l))
	}
	for _, m := range all {
		if !unifies(m, a, b) {
			continue
		}
		unifiers++
		if e != 0 || !obtained(m, l, vars) {
			t.Errorf("%s and %s by %q: %s, error %d; but %s", termTexts(a), termTexts(b), vars, listText(l), e, listText(m))
		}
	}
	return unifiers
}

// All pairs of terms of a small set, and all unifiers of it.
func TestUnifiersAreMostGeneral(t *testing.T) {
	unifiers := 0
	for _, vars := range [][]string{nil, justX(), xAndY()} {
		all := substitutions(vars)
		for _, x := range someTerms() {
			for _, y := range someTerms() {
				l, e := Terms(terms{x}, terms{y}, vars)
				unifiers += checkGeneral(t, terms{x}, terms{y}, vars, all, l, e)
			}
		}
	}
	if unifiers < 5000 {
		t.Error(unifiers)
	}
}

// Two pairs at a time, as terms and as claims.
func TestUnifiersOfListsAndClaimsAreMostGeneral(t *testing.T) {
	all := substitutions(xAndY())
	few := terms{v("x"), v("y"), f(v("x")), f(v("y")), g(v("x"), v("y")), g(v("y"), app("c")), f(app("c")), f(b(0))}
	unifiers := 0
	for _, x := range few {
		for _, y := range few {
			for _, z := range few {
				for _, u := range few[:5] {
					a, b := terms{x, y}, terms{z, u}
					l, e := Terms(a, b, xAndY())
					unifiers += checkGeneral(t, a, b, xAndY(), all, l, e)
				}
			}
		}
	}
	claims := someClaims(v("x"), v("y"), app("c"))
	for i, c := range claims {
		for j := i % 3; j < len(claims); j += 3 {
			l, e := Claims(c, claims[j], xAndY())
			if framed(c, claims[j]) {
				unifiers += checkGeneral(t, termsOf(c), termsOf(claims[j]), xAndY(), all, l, e)
				if e == 0 && !claim.Same(subst.ApplyClaim(l, c), subst.ApplyClaim(l, claims[j])) {
					t.Error(text(c), text(claims[j]), listText(l))
				}
			}
		}
	}
	if unifiers < 5000 {
		t.Error(unifiers)
	}
}

// Rules of all layers: memory, ends, limits.

// Whatever becomes of an argument or of an answer, the other one stays as it was.
func TestAnswersShareNoMemory(t *testing.T) {
	for _, name := range []string{"Terms", "Terms from the right", "Claims"} {
		x := g(f(v("c"), num(1)), v("x"), f(v("x"), v("x")))
		a, m := terms{v("x"), v("y"), v("z"), x}, terms{f(app("c")), x, v("y"), x}
		c, d := and(p("p", a[:2]...), within(2, eq(v("z"), x))), and(p("p", m[:2]...), within(2, eq(v("y"), x)))
		call := map[string]func() sample.Data{
			"Terms":                func() sample.Data { return answer(Terms(a, m, xyz())) },
			"Terms from the right": func() sample.Data { return answer(Terms(m, a, xyz())) },
			"Claims":               func() sample.Data { return answer(Claims(c, d, xyz())) },
		}[name]
		if got := call(); len(got.Pairs[0]) != 3 || got.Shares(asTerms(a...).With(asTerms(m...)).With(asClaims(c, d))) {
			t.Error(name, got.Text())
		}
		if said := sample.Tied(call, asTerms(a...).With(asTerms(m...)).With(asClaims(c, d))); said != "" {
			t.Error(name, said)
		}
	}
}

// Nothing is written behind the lists of an argument, and nothing that is appended to an answer is seen.
func TestRoomBehindLists(t *testing.T) {
	room := terms{v("x"), f(app("c")), v("z"), f(v("z")), v("free"), v("free")}
	before := sample.TwinClaim(p("p", room...))
	names := []string{"x", "z", "free", "free"}
	for i := range 5 {
		for j := i; j < 5; j++ {
			l, e := Terms(room[i:j], room[i+1:j+1], names[:2])
			if want, err := wantTerms(room[i:j], room[i+1:j+1], names[:2]); e != err || !sample.EqualPairs(l, want) {
				t.Error(i, j, e, listText(l))
			}
			_ = append(l, to("spoilt", app("d")))
			for _, q := range l {
				_ = append(q.Term.Args, app("d"))
			}
		}
	}
	if !sample.EqualClaims(p("p", room...), before) || !slices.Equal(names, []string{"x", "z", "free", "free"}) {
		t.Error(termTexts(room), names)
	}
}

// wrongParts are terms that are wrong in one place or several.
func wrongParts() terms {
	x := v("x")
	l := terms{{}, {Op: 9}, {Op: least}, {Op: 1 << 32}, b(-1), b(least), withArgs(x, x), withArgs(b(0), x), withArgs(num(1), x), {Op: api.TNum, Name: "x"}, {Op: api.TNeg}, f(sample.Vars(9, "x")...), f(sample.Vars(5000, "x")...), chain(64, x), sized(4097)}
	for _, hull := range hulls() {
		l = append(l, hull(api.Term{}), hull(withArgs(x, x)))
	}
	return l
}

// The calls end for whatever they are given, and tell the first error.
func TestWrongTerms(t *testing.T) {
	x, wrong := v("x"), wrongParts()
	for i, one := range wrong {
		failBoth(t, one, x, justX(), term.Right(one))
		for j, other := range wrong {
			if i%4 == j%4 {
				failOne(t, one, other, justX(), term.Right(one))
				failTerms(t, terms{x, one, x}, terms{other, x, one}, justX(), term.Right(one))
			}
		}
		for k := range 3 {
			c := within(k, and(p("p", x), p("p", one)))
			failClaims(t, c, within(k, and(p("p", x), p("p", x))), justX(), claim.Right(c))
			failClaims(t, within(k, p("q")), c, justX(), claim.Right(c))
		}
	}
	const n = 1 << 16
	failBoth(t, x, chain(n, x), justX(), api.ErrDeep)
	failBoth(t, x, sized(n), justX(), api.ErrLong)
	failClaims(t, within(n, p("p", x)), within(n, p("p", x)), justX(), api.ErrDeep)
	failClaims(t, sample.Heavy(n), sample.Heavy(n), justX(), api.ErrLong)
}

// names are n names in increasing order.
func names(letter string, n int) []string {
	var l []string
	for i := range n {
		l = append(l, letter+strconv.Itoa(1000000+i))
	}
	return l
}

// of are what wrap makes of the terms.
func of(wrap func(api.Term) api.Term, l terms) terms {
	var r terms
	for _, x := range l {
		r = append(r, wrap(x))
	}
	return r
}

// variables are those of the names.
func variables(names []string) terms {
	var l terms
	for _, name := range names {
		l = append(l, v(name))
	}
	return l
}

func twice(x api.Term) api.Term { return g(x, x) }

// with is l with x behind it, in new memory.
func with(l terms, x api.Term) terms { return append(slices.Clone(l), x) }

func reversed(l terms) terms {
	l = slices.Clone(l)
	slices.Reverse(l)
	return l
}

// give holds an answer of Terms to a great list against want.
func give(t *testing.T, a, b terms, vars []string, want list, e api.Errno) {
	t.Helper()
	if got, err := Terms(a, b, vars); err != e || !sample.EqualPairs(got, want) {
		t.Errorf("error %d with %s; want %d with %s", err, listText(got), e, listText(want))
	}
}

// There may be as many variables as there are pairs.
func TestManyVariables(t *testing.T) {
	const n = 30000
	all := names("x", n)
	vars, c := variables(all), app("c")
	var numbers terms
	var each, same list
	for i, name := range all {
		numbers = append(numbers, num(int64(i)))
		each, same = append(each, to(name, num(int64(i)))), append(same, to(name, c))
	}
	give(t, vars, numbers, all, each, 0)
	give(t, with(vars, vars[0]), with(numbers, num(n)), all, nil, api.ErrUnify)
	// Each one is bound to the next one, from either end, and then all of them are held against one term.
	rest, first := vars[1:], vars[:n-1]
	give(t, with(first, vars[n-1]), with(rest, c), all, same, 0)
	give(t, with(first, vars[0]), with(rest, c), all, same, 0)
	give(t, with(reversed(first), vars[0]), with(reversed(rest), c), all, same, 0)
	give(t, append(with(first, c), vars...), append(with(rest, c), slices.Repeat(terms{c}, n)...), all, same, 0)
	give(t, append(with(rest, c), vars...), append(with(first, c), slices.Repeat(terms{c}, n)...), all, same, 0)
	give(t, append(with(first, vars[0]), vars...), append(with(rest, c), with(rest, app("d"))...), all, nil, api.ErrUnify)
	long := strings.Repeat("x", 1<<16)
	checkOne(t, f(v(long), v(long+"y")), f(num(1), v(long+"y")), []string{long, long + "z"}, list{to(long, num(1))})
}

// Bindings may lead from each variable to the next one, so that the last one is within all the others.
func TestLongRowsOfBindings(t *testing.T) {
	const n = 20000
	all := names("x", n)
	vars, c := variables(all), app("c")
	rest, first, last := vars[1:], vars[:n-1], vars[n-1]
	for _, wrap := range []func(api.Term) api.Term{twice, neg, func(x api.Term) api.Term { return chain(5, x) }} {
		wrapped := of(wrap, rest)
		give(t, with(first, c), with(wrapped, app("d")), all, nil, api.ErrUnify)
		give(t, with(first, vars[0]), with(wrapped, b(0)), all, nil, api.ErrUnify)
		give(t, with(first, last), with(wrapped, b(0)), all, nil, api.ErrBound)
		give(t, with(first, last), with(wrapped, g(vars[0], b(0))), all, nil, api.ErrOccur)
		give(t, with(first, last), with(wrapped, wrap(vars[0])), all, nil, api.ErrOccur)
		give(t, append(terms{last}, first...), append(terms{wrap(vars[0])}, wrapped...), all, nil, api.ErrOccur)
		give(t, append(with(reversed(first), last), c), append(with(reversed(wrapped), vars[0]), app("d")), all, nil, api.ErrOccur)
		give(t, first, wrapped, all, nil, api.ErrDeep)
		give(t, reversed(wrapped), reversed(first), all, nil, api.ErrDeep)
	}
	give(t, rest, of(twice, first), all, nil, api.ErrLong)
	give(t, rest, of(neg, first), all, nil, api.ErrDeep)
}

// limited is the error of a right part by part term of that depth and size.
func limited(depth, size int) api.Errno {
	switch {
	case depth > 64:
		return api.ErrDeep
	case size > 4096:
		return api.ErrLong
	}
	return api.OK
}

// Bindings may grow with each other, each one twice as great as the one before it, far beyond what could be written down.
func TestBindingsThatGrow(t *testing.T) {
	for _, n := range []int{1, 5, 10, 11, 12, 60, 62, 63, 64, 65, 100, 20000} {
		vars := names("x", n+1)
		a, b := variables(vars[1:]), of(twice, variables(vars[:n]))
		size := 1<<min(n+1, 40) - 1
		// By name the first term that is too great is that of the twelfth variable, which is too long; under the name a the greatest one comes ahead of it.
		l, e := Terms(a, b, vars)
		if e != limited(min(n+1, 13), size) || e == 0 && (len(l) != n || term.Size(l[n-1].Term) != size || term.Depth(l[n-1].Term) != n+1) || e != 0 && len(l) > 0 {
			t.Error(n, e, listText(l))
		}
		l, e = Terms(with(a, v("a")), with(b, a[n-1]), append(vars, "a"))
		if e != limited(n+1, size) || e == 0 && len(l) != n+1 || e != 0 && len(l) > 0 {
			t.Error(n, e, listText(l))
		}
	}
}

// What has grown is held against what has grown likewise.
func TestGrownBindingsAgainstEachOther(t *testing.T) {
	for _, n := range []int{1, 5, 10, 11, 12, 40, 20000} {
		xs, ys := names("x", n+1), names("y", n+1)
		a := append(variables(xs[1:]), variables(ys[1:])...)
		b := append(of(twice, variables(xs[:n])), of(twice, variables(ys[:n]))...)
		x, y, top, other := v(xs[0]), v(ys[0]), v(xs[n]), v(ys[n])
		vars := append(xs, ys...)
		e := limited(min(n+1, 13), 1<<min(n+1, 40)-1)
		for _, pair := range []terms{{top, other}, {other, top}, {twice(top), twice(other)}} {
			l, err := Terms(with(a, pair[0]), with(b, pair[1]), vars)
			if err != e || e == 0 && (len(l) != 2*n+1 || !unifies(l, with(a, top), with(b, other))) || e != 0 && len(l) > 0 {
				t.Error(n, err, listText(l))
			}
		}
		give(t, append(a, top, x), append(b, other, f(y)), vars, nil, api.ErrOccur)
		give(t, append(a, top, x, y), append(b, other, num(1), num(2)), vars, nil, api.ErrUnify)
		give(t, append(a, x, y, top), append(b, num(1), num(2), other), vars, nil, api.ErrUnify)
		give(t, append(a, f(top)), append(b, other), vars, nil, api.ErrUnify)
		give(t, append(a, twice(top)), append(b, top), vars, nil, api.ErrOccur)
	}
}

// Terms may share memory, however often they stand there; nothing is made of what many variables are bound to if the call fails.
func TestSharedMemory(t *testing.T) {
	const n = 1000
	x, y, c, big := v("x"), v("y"), app("c"), sized(4000)
	l, all := slices.Repeat(terms{big}, n), names("v", n)
	give(t, l, slices.Repeat(terms{sum(4000)}, n), justX(), list{to("x", c)}, 0)
	give(t, with(l, y), with(l, f(y)), xAndY(), nil, api.ErrOccur)
	give(t, with(l, x), with(l, b(0)), justX(), nil, api.ErrBound)
	give(t, with(variables(all), c), with(l, app("d")), all, nil, api.ErrUnify)
	give(t, append(variables(all), v("w"), x), append(l, f(x, x), sum(3000)), append(all, "w", "x"), nil, api.ErrLong)
}

// Terms that nest deeper than any right one, and lists far longer.
func TestIdempotentOfGreatLists(t *testing.T) {
	const n = 1 << 16
	x, c := v("x"), app("c")
	checkIdempotent(t, list{to("x", chain(n, c))}, true)
	checkIdempotent(t, list{to("x", c), to("y", chain(n, x))}, false)
	checkIdempotent(t, list{to("x", x), to("y", chain(n, x))}, true)
	many := f(sample.Vars(n, "x")...)
	checkIdempotent(t, list{to("x", many)}, false)
	checkIdempotent(t, list{to("x", many), to("y", many)}, false)
	checkIdempotent(t, list{to("z", many), to("y", many)}, true)
	var l list
	for _, name := range names("x", 30000) {
		l = append(l, to(name, v(name)))
	}
	checkIdempotent(t, l, true)
	l[0].Term = f(v(l[29999].Name))
	checkIdempotent(t, l, true)
	checkIdempotent(t, append(l, to("z", v(l[0].Name))), false)
}
