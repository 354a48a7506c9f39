package subst

import (
	"math"
	"slices"
	"sort"
	"strconv"
	"strings"
	"testing"

	"sequitur/api"
	"sequitur/bind"
	"sequitur/claim"
	"sequitur/sample"
	"sequitur/term"
)

// Short names for what the tests are full of.
var (
	v, num, app, b             = sample.Var, sample.Num, sample.App, sample.Bound
	add, sub, neg, mul         = sample.Add, sample.Sub, sample.Neg, sample.Mul
	p, eq, le, made            = sample.Pred, sample.Eq, sample.Le, sample.Made
	not, and, or, imp          = sample.Not, sample.And, sample.Or, sample.Imp
	iff, forAll, exists        = sample.Iff, sample.All, sample.Ex
	withArgs, withTerms        = sample.WithArgs, sample.WithTerms
	text, termText             = sample.ClaimText, sample.TermText
	to, listText               = sample.Pair, sample.PairsText
	equal, equalTerms          = sample.EqualClaims, sample.EqualTerms
	asLists, asClaims, asTerms = sample.Lists, sample.Claims, sample.Terms
	equalLists, twin, chain    = sample.EqualPairs, sample.TwinPairs, sample.Chain
	within, wrongTerms         = sample.Within, sample.WrongTerms
	hulls, rightHulls          = sample.Hulls, sample.RightHulls
	listsOf, renamed           = sample.Substitutions, sample.Renamed
)

type list = []api.Pair

const greatest = math.MaxInt64

// What the chapter says, word by word, with nothing of the package in it.

func wantRight(l list) api.Errno {
	for i := range l {
		if e := term.Right(l[i].Term); e != 0 {
			return e
		}
		if i >= 1 && !(l[i].Name > l[i-1].Name) {
			return 4
		}
	}
	return 0
}

func wantGet(l list, name string) (api.Term, bool) {
	for i := range l {
		if l[i].Name == name {
			return l[i].Term, true
		}
	}
	return api.Term{}, false
}

func wantPut(l list, name string, x api.Term) list {
	var others, r list
	for _, q := range l {
		if q.Name != name {
			others = append(others, q)
		}
	}
	put := false
	for _, q := range others {
		if !put && q.Name > name {
			r, put = append(r, to(name, x)), true
		}
		r = append(r, q)
	}
	if !put {
		r = append(r, to(name, x))
	}
	return r
}

func wantSame(a, b list) bool {
	if len(a) != len(b) {
		return false
	}
	for i := range a {
		if a[i].Name != b[i].Name || !equalTerms(a[i].Term, b[i].Term) {
			return false
		}
	}
	return true
}

// wantWithin is t, within k binders, with the terms of l.
func wantWithin(l list, t api.Term, k int) api.Term {
	if t.Op == 1 {
		if x, ok := wantGet(l, t.Name); ok {
			return bind.Lift(x, k)
		}
	}
	r := api.Term{Op: t.Op, Name: t.Name, Num: t.Num}
	for _, a := range t.Args {
		r.Args = append(r.Args, wantWithin(l, a, k))
	}
	return r
}

func wantApply(l list, t api.Term) api.Term { return wantWithin(l, t, 0) }

func wantClaimWithin(l list, c api.Claim, k int) api.Claim {
	r := api.Claim{Op: c.Op, Name: c.Name, Sort: c.Sort}
	for _, t := range c.Terms {
		r.Terms = append(r.Terms, wantWithin(l, t, k))
	}
	if c.Op == 11 || c.Op == 12 {
		k++
	}
	for _, s := range c.Subs {
		r.Subs = append(r.Subs, wantClaimWithin(l, s, k))
	}
	return r
}

func wantApplyClaim(l list, c api.Claim) api.Claim { return wantClaimWithin(l, c, 0) }

func wantThen(a, b list) list {
	then := map[string]api.Term{}
	for _, q := range slices.Backward(b) {
		then[q.Name] = q.Term
	}
	for _, q := range slices.Backward(a) {
		then[q.Name] = wantApply(b, q.Term)
	}
	var names []string
	for name := range then {
		names = append(names, name)
	}
	sort.Strings(names)
	var r list
	for _, name := range names {
		r = append(r, to(name, then[name]))
	}
	return r
}

// check calls f and holds its answer against want, and the arguments against what they were; none of them may share memory.
func check(t *testing.T, call string, f func() sample.Data, want, arguments sample.Data) {
	t.Helper()
	if said := sample.Wrong(f, want, arguments); said != "" {
		t.Errorf("%s: %s", call, said)
	}
}

// unchanged calls f and holds the arguments against what they were.
func unchanged(t *testing.T, f func(), arguments sample.Data) {
	t.Helper()
	if said := arguments.Changed(f); said != "" {
		t.Error(said)
	}
}

func quoted(s string) string { return strconv.Quote(s[:min(len(s), 40)]) }

func checkRight(t *testing.T, l list, want api.Errno) {
	t.Helper()
	unchanged(t, func() {
		t.Helper()
		if got := Right(l); got != want {
			t.Errorf("Right(%s) is %d; want %d", listText(l), got, want)
		}
	}, asLists(l))
}

// checkGet wants no term if l has none of that name.
func checkGet(t *testing.T, l list, name string, want ...api.Term) {
	t.Helper()
	found := false
	check(t, "Get "+quoted(name), func() sample.Data {
		x, ok := Get(l, name)
		found = ok
		return asTerms(x)
	}, asTerms(append(want, api.Term{})[0]), asLists(l))
	if found != (len(want) > 0) {
		t.Errorf("Get(%s, %q) is found: %v", listText(l), name, found)
	}
}

func checkPut(t *testing.T, l list, name string, x api.Term, want list) {
	t.Helper()
	check(t, "Put "+quoted(name), func() sample.Data { return asLists(Put(l, name, x)) }, asLists(want), asLists(l).With(asTerms(x)))
}

// checkSame holds Same against want both ways round.
func checkSame(t *testing.T, a, b list, want bool) {
	t.Helper()
	unchanged(t, func() {
		t.Helper()
		if got, back := Same(a, b), Same(b, a); got != want || back != want {
			t.Errorf("Same of %s and %s is %v, and %v the other way round", listText(a), listText(b), got, back)
		}
	}, asLists(a, b))
}

func checkApply(t *testing.T, l list, x, want api.Term) {
	t.Helper()
	check(t, "Apply", func() sample.Data { return asTerms(Apply(l, x)) }, asTerms(want), asLists(l).With(asTerms(x)))
}

func checkApplyClaim(t *testing.T, l list, c, want api.Claim) {
	t.Helper()
	check(t, "ApplyClaim", func() sample.Data { return asClaims(ApplyClaim(l, c)) }, asClaims(want), asLists(l).With(asClaims(c)))
}

func checkThen(t *testing.T, a, b, want list) {
	t.Helper()
	check(t, "Then", func() sample.Data { return asLists(Then(a, b)) }, asLists(want), asLists(a, b))
}

func checkRename(t *testing.T, c api.Claim, from, into string, want api.Claim) {
	t.Helper()
	check(t, "Rename "+quoted(from)+" to "+quoted(into), func() sample.Data { return asClaims(Rename(c, from, into)) }, asClaims(want), asClaims(c))
}

// Promise 10.1.

func TestRight(t *testing.T) {
	x := v("x")
	checkRight(t, nil, api.OK)
	checkRight(t, list{}, api.OK)
	checkRight(t, list{to("x", x)}, api.OK)
	checkRight(t, list{to("", app("c"))}, api.OK)
	checkRight(t, list{to("", x), to("x", x), to("y", v("y"))}, api.OK)
	checkRight(t, list{to("X", x), to("x", x), to("x'", x), to("xx", b(7)), to("\xff", b(greatest))}, api.OK)
	checkRight(t, list{to("x", x), to("x", x)}, api.ErrSame)
	checkRight(t, list{to("", x), to("", x)}, api.ErrSame)
	checkRight(t, list{to("y", x), to("x", x)}, api.ErrSame)
	checkRight(t, list{to("x", x), to("", x)}, api.ErrSame)
	checkRight(t, list{to("xx", x), to("x", x)}, api.ErrSame)
	checkRight(t, list{to("x", x), to("X", x)}, api.ErrSame)
	checkRight(t, list{to("\xff", x), to("z", x)}, api.ErrSame)
	checkRight(t, list{to("a", x), to("c", x), to("b", x)}, api.ErrSame)
	checkRight(t, list{to("a", x), to("b", x), to("b", x)}, api.ErrSame)
	checkRight(t, list{to("a", x), to("c", x), to("b", x), to("d", x)}, api.ErrSame)
	checkRight(t, list{to("a", x), to("b", x), to("a", x)}, api.ErrSame)
}

func TestRightOfWrongTerms(t *testing.T) {
	x := v("x")
	for want, wrong := range wrongTerms() {
		checkRight(t, list{to("x", wrong)}, want)
		checkRight(t, list{to("", wrong)}, want)
		checkRight(t, list{to("x", wrong), to("y", x)}, want)
		checkRight(t, list{to("x", x), to("y", wrong)}, want)
		checkRight(t, list{to("a", x), to("b", x), to("c", wrong)}, want)
		// In one pair the term goes first; of several pairs the first one.
		checkRight(t, list{to("x", x), to("x", wrong)}, want)
		checkRight(t, list{to("y", x), to("x", wrong)}, want)
		checkRight(t, list{to("x", wrong), to("x", x)}, want)
		checkRight(t, list{to("y", wrong), to("x", x)}, want)
		checkRight(t, list{to("y", x), to("x", x), to("z", wrong)}, api.ErrSame)
		checkRight(t, list{to("x", x), to("x", x), to("x", wrong)}, api.ErrSame)
		for other, also := range wrongTerms() {
			checkRight(t, list{to("x", wrong), to("y", also)}, want)
			checkRight(t, list{to("y", also), to("x", wrong)}, other)
		}
	}
}

func TestRightAtLimits(t *testing.T) {
	var many list
	for i := range 3000 {
		many = append(many, to("x"+strconv.Itoa(100000+i), v("y")))
	}
	checkRight(t, many, api.OK)
	checkRight(t, list{to("x", chain(63, v("x"))), to("y", sample.SizedTerm(4096)), to("z", app("f", sample.Vars(8, "z")...))}, api.OK)
	checkRight(t, list{to("z", app("f", sample.Vars(9, "z")...))}, api.ErrArity)
	for _, i := range []int{1, 2, 1500, 2999} {
		l := slices.Clone(many)
		l[i].Name = l[i-1].Name
		checkRight(t, l, api.ErrSame)
		l[i].Term = api.Term{}
		checkRight(t, l, api.ErrForm)
	}
}

func TestGet(t *testing.T) {
	x, y := v("x"), app("f", v("y"), app("g", num(1)))
	for _, l := range []list{nil, {}, {to("x", x)}, {to("x", x), to("y", y)}} {
		for _, name := range []string{"", "z", "xx", "X", "x\x00"} {
			checkGet(t, l, name)
		}
	}
	checkGet(t, list{to("x", y)}, "x", y)
	checkGet(t, list{to("x", y), to("y", x)}, "x", y)
	checkGet(t, list{to("x", x), to("y", y), to("z", x)}, "y", y)
	checkGet(t, list{to("x", x), to("y", x), to("z", y)}, "z", y)
	checkGet(t, list{to("z", x), to("y", x), to("x", y)}, "x", y)
	checkGet(t, list{to("x", y), to("x", x)}, "x", y)
	checkGet(t, list{to("x", x), to("x", y)}, "x", x)
	checkGet(t, list{to("z", num(1)), to("y", y), to("x", x), to("y", num(2)), to("y", num(3))}, "y", y)
	checkGet(t, list{to("x", x), to("", y)}, "", y)
	checkGet(t, list{to("\xff\xfe", y)}, "\xff\xfe", y)
	checkGet(t, list{to("\xff\xfe", y)}, "\xff\xfd")
	checkGet(t, list{to("x", api.Term{})}, "x", api.Term{})
	checkGet(t, list{to("x", withArgs(b(-1), v("x")))}, "x", withArgs(b(-1), v("x")))
}

func TestPut(t *testing.T) {
	x, y, n := v("x"), app("f", v("y"), app("g", b(1))), num(7)
	for _, l := range []list{nil, {}} {
		checkPut(t, l, "x", y, list{to("x", y)})
		checkPut(t, l, "", y, list{to("", y)})
	}
	l := list{to("b", x), to("d", n), to("f", x)}
	checkPut(t, l, "a", y, list{to("a", y), l[0], l[1], l[2]})
	checkPut(t, l, "", y, list{to("", y), l[0], l[1], l[2]})
	checkPut(t, l, "b", y, list{to("b", y), l[1], l[2]})
	checkPut(t, l, "c", y, list{l[0], to("c", y), l[1], l[2]})
	checkPut(t, l, "d", y, list{l[0], to("d", y), l[2]})
	checkPut(t, l, "e", y, list{l[0], l[1], to("e", y), l[2]})
	checkPut(t, l, "f", y, list{l[0], l[1], to("f", y)})
	checkPut(t, l, "g", y, list{l[0], l[1], l[2], to("g", y)})
	checkPut(t, l, "dd", y, list{l[0], l[1], to("dd", y), l[2]})
	checkPut(t, l, "D", y, list{to("D", y), l[0], l[1], l[2]})
	checkPut(t, l, "\xff", y, list{l[0], l[1], l[2], to("\xff", y)})
	checkPut(t, l, "b", x, l)
	checkPut(t, list{to("x", x)}, "x", y, list{to("x", y)})
	checkPut(t, list{to("x", y)}, "x", api.Term{}, list{to("x", api.Term{})})
	checkPut(t, list{to("x", api.Term{})}, "y", withArgs(x, y), list{to("x", api.Term{}), to("y", withArgs(x, y))})
}

// In lists that are not right the first greater name tells the place, wherever the name itself stood.
func TestPutIntoWrongLists(t *testing.T) {
	x, y, n := v("x"), app("f", v("y")), num(7)
	checkPut(t, list{to("x", x), to("x", n)}, "x", y, list{to("x", y)})
	checkPut(t, list{to("x", x), to("x", n)}, "a", y, list{to("a", y), to("x", x), to("x", n)})
	checkPut(t, list{to("x", x), to("x", n)}, "z", y, list{to("x", x), to("x", n), to("z", y)})
	checkPut(t, list{to("a", x), to("x", n), to("c", n), to("x", x), to("d", x)}, "x", y, list{to("a", x), to("c", n), to("d", x), to("x", y)})
	checkPut(t, list{to("b", x), to("z", n), to("b", n), to("a", x), to("b", y)}, "b", y, list{to("b", y), to("z", n), to("a", x)})
	checkPut(t, list{to("z", x), to("x", n), to("a", x)}, "x", y, list{to("x", y), to("z", x), to("a", x)})
	checkPut(t, list{to("a", x), to("z", n), to("x", x)}, "x", y, list{to("a", x), to("x", y), to("z", n)})
	checkPut(t, list{to("c", x), to("a", n), to("d", x), to("e", n)}, "c", y, list{to("a", n), to("c", y), to("d", x), to("e", n)})
	checkPut(t, list{to("c", x), to("b", n), to("a", x)}, "bb", y, list{to("bb", y), to("c", x), to("b", n), to("a", x)})
	checkPut(t, list{to("c", x), to("b", n), to("a", x)}, "d", y, list{to("c", x), to("b", n), to("a", x), to("d", y)})
	checkPut(t, list{to("x", x), to("y", x), to("x", n), to("y", n)}, "x", y, list{to("x", y), to("y", x), to("y", n)})
	checkPut(t, list{to("x", x), to("y", x), to("x", n), to("y", n)}, "y", y, list{to("x", x), to("x", n), to("y", y)})
}

func TestSame(t *testing.T) {
	x, y := v("x"), app("f", v("y"), app("g", num(1)))
	l := list{to("x", x), to("y", y), to("z", num(1))}
	checkSame(t, nil, nil, true)
	checkSame(t, nil, list{}, true)
	checkSame(t, list{}, list{}, true)
	checkSame(t, nil, list{to("", api.Term{})}, false)
	checkSame(t, list{}, l, false)
	checkSame(t, l, l, true)
	checkSame(t, l, twin(l), true)
	for i := range l {
		checkSame(t, l, l[:i], false)
		checkSame(t, l, slices.Delete(twin(l), i, i+1), false)
		for _, other := range []api.Pair{to("X", l[i].Term), to("", l[i].Term), to(l[i].Name+"x", l[i].Term), to(l[i].Name, num(2)), to(l[i].Name, app("f", v("y"), app("g", num(2)))), to(l[i].Name, app("f", v("y"))), to(l[i].Name, withArgs(x, x))} {
			m := twin(l)
			m[i] = other
			checkSame(t, l, m, false)
		}
		for j := range i {
			m := twin(l)
			m[i], m[j] = m[j], m[i]
			checkSame(t, l, m, false)
			m = twin(l)
			m[i].Name, m[j].Name = m[j].Name, m[i].Name
			checkSame(t, l, m, false)
		}
	}
	checkSame(t, list{to("x", app("c")), to("y", x)}, list{to("x", withArgs(app("c"), []api.Term{}...)), to("y", withArgs(x, []api.Term{}...))}, true)
	checkSame(t, list{to("x", x), to("x", y)}, list{to("x", x), to("x", y)}, true)
	checkSame(t, list{to("x", x), to("x", y)}, list{to("x", x), to("x", x)}, false)
	checkSame(t, list{to("x", x), to("x", x)}, list{to("x", x)}, false)
	checkSame(t, list{to("y", x), to("x", b(-1))}, list{to("y", x), to("x", b(-1))}, true)
}

// Promise 10.2.

func TestApply(t *testing.T) {
	x, y, z, c := v("x"), v("y"), v("z"), app("c")
	f := func(l ...api.Term) api.Term { return app("f", l...) }
	g := func(l ...api.Term) api.Term { return app("g", l...) }
	checkApply(t, list{to("x", f(y))}, g(x, x), g(f(y), f(y)))
	for _, u := range []api.Term{x, c, f(x, g(y, b(3))), num(2), add(x, neg(mul(2, y)))} {
		checkApply(t, nil, u, u)
		checkApply(t, list{}, u, u)
		checkApply(t, list{to("z", c), to("", c), to("X", c), to("xx", c)}, u, u)
		checkApply(t, list{to("x", x), to("y", y)}, u, u)
		checkApply(t, list{to("z", u)}, z, u)
		checkApply(t, list{to("z", u)}, f(x, z), f(x, u))
	}
	checkApply(t, list{to("x", c)}, f(x, y), f(c, y))
	checkApply(t, list{to("x", c)}, f(g(x), g(y, g(x)), x), f(g(c), g(y, g(c)), c))
	checkApply(t, list{to("x", c), to("y", num(3))}, add(sub(x, y), neg(mul(2, x))), add(sub(c, num(3)), neg(mul(2, c))))
	// All at once: what is put in is not searched again.
	checkApply(t, list{to("x", y), to("y", x)}, f(x, y), f(y, x))
	checkApply(t, list{to("x", f(y)), to("y", c)}, g(x, y), g(f(y), c))
	checkApply(t, list{to("x", c), to("y", f(x))}, g(x, y), g(c, f(x)))
	checkApply(t, list{to("x", f(x))}, g(x, f(x)), g(f(x), f(f(x))))
	checkApply(t, list{to("x", y), to("y", z), to("z", x)}, f(x, y, z, x), f(y, z, x, y))
	// Of a name that stands there twice, the first pair counts.
	checkApply(t, list{to("x", c), to("x", y)}, f(x), f(c))
	checkApply(t, list{to("y", c), to("x", y), to("y", x), to("x", c)}, f(x, y), f(y, c))
	checkApply(t, list{to("x", x), to("x", c)}, f(x), f(x))
	checkApply(t, list{to("", c), to("\xff", y)}, f(v(""), v("\xff"), x), f(c, y, x))
	for _, hull := range hulls() {
		checkApply(t, list{to("x", f(y)), to("y", c)}, hull(x), hull(f(y)))
		checkApply(t, list{to("x", f(y)), to("y", c)}, hull(hull(g(x, y))), hull(hull(g(f(y), c))))
		checkApply(t, list{to("x", hull(x))}, hull(x), hull(hull(x)))
		checkApply(t, list{to("f", c), to("c", c), to("z", c)}, hull(f(c, x)), hull(f(c, x)))
	}
}

// A variable may have Args and a Num, and a namesake that is none.
func TestApplyToNamesakes(t *testing.T) {
	x, y, c := v("x"), v("y"), app("c")
	l := list{to("x", app("f", y)), to("y", c)}
	checkApply(t, l, withArgs(x, x, y), app("f", y))
	checkApply(t, l, withArgs(v("z"), x, y), withArgs(v("z"), app("f", y), c))
	checkApply(t, l, app("g", withArgs(x, b(1)), withArgs(y, withArgs(x, y))), app("g", app("f", y), c))
	checkApply(t, l, api.Term{Op: api.TVar, Name: "x", Num: 9}, app("f", y))
	checkApply(t, list{to("x", withArgs(x, y))}, withArgs(x, x, x), withArgs(x, y))
	for _, op := range []int{math.MinInt64, -1, 0, 2, 3, 4, 5, 6, 7, 8, 9, 1<<32 + 1, greatest} {
		checkApply(t, l, api.Term{Op: op, Name: "x", Num: 3}, api.Term{Op: op, Name: "x", Num: 3})
		checkApply(t, l, api.Term{Op: op, Name: "x", Num: 3, Args: []api.Term{x, y}}, api.Term{Op: op, Name: "x", Num: 3, Args: []api.Term{app("f", y), c}})
		checkApply(t, list{to("x", api.Term{Op: op, Name: "y", Num: -3, Args: []api.Term{x}})}, app("f", x), app("f", api.Term{Op: op, Name: "y", Num: -3, Args: []api.Term{x}}))
	}
	checkApply(t, l, api.Term{}, api.Term{})
}

// Loose numbers of a term stay as they are: a term lies within no binder.
func TestApplyLiftsNothing(t *testing.T) {
	for _, n := range []int64{math.MinInt64, -1, 0, 1, 5, greatest - 1, greatest} {
		checkApply(t, list{to("x", b(n))}, app("f", v("x"), b(n), b(0)), app("f", b(n), b(n), b(0)))
		checkApply(t, list{to("x", withArgs(b(n), b(n), v("x")))}, app("f", app("f", v("x"))), app("f", app("f", withArgs(b(n), b(n), v("x")))))
	}
}

func TestApplyClaim(t *testing.T) {
	x, y, c := v("x"), v("y"), app("c")
	l := list{to("x", app("f", y)), to("y", x)}
	for _, whole := range []api.Claim{sample.True(), sample.False(), p("x"), p("p", c, b(2)), within(3, eq(b(0), v("z"))), forAll("x", "A", sample.True())} {
		checkApplyClaim(t, l, whole, whole)
		checkApplyClaim(t, nil, whole, whole)
		checkApplyClaim(t, list{}, whole, whole)
	}
	checkApplyClaim(t, nil, p("p", x, y), p("p", x, y))
	checkApplyClaim(t, l, p("p", x, y, c, x), p("p", app("f", y), x, c, app("f", y)))
	checkApplyClaim(t, l, eq(x, app("g", y, x)), eq(app("f", y), app("g", x, app("f", y))))
	checkApplyClaim(t, l, imp(le(x, num(1)), iff(not(p("q", y)), or(p("x"), and(p("p", x), sample.True())))), imp(le(app("f", y), num(1)), iff(not(p("q", x)), or(p("x"), and(p("p", app("f", y)), sample.True())))))
	checkApplyClaim(t, list{to("x", c), to("x", y)}, p("p", x), p("p", c))
	checkApplyClaim(t, list{to("x", x)}, within(2, p("p", x, b(0))), within(2, p("p", x, b(0))))
	// No part but a variable is put something in for, whatever its name is.
	checkApplyClaim(t, list{to("p", c), to("f", c), to("A", c), to("u", c)}, forAll("u", "A", p("p", app("f", x))), forAll("u", "A", p("p", app("f", x))))
	for k := range 5 {
		for _, hull := range rightHulls() {
			checkApplyClaim(t, l, within(k, p("p", hull(x), y)), within(k, p("p", hull(app("f", y)), x)))
		}
	}
}

// Within binders, what is put in is lifted, each time by the binders there.
func TestApplyClaimLifts(t *testing.T) {
	x, y := v("x"), v("y")
	h := func(n int64) api.Term { return app("h", b(n), y, add(b(n+2), num(1))) }
	l := list{to("x", h(0)), to("y", b(5))}
	for k := range 6 {
		n := int64(k)
		checkApplyClaim(t, l, within(k, p("p", x)), within(k, p("p", h(n))))
		checkApplyClaim(t, l, within(k, p("p", y, x, b(0), b(n), b(n+1))), within(k, p("p", b(n+5), h(n), b(0), b(n), b(n+1))))
		checkApplyClaim(t, l, and(p("p", x), within(k, or(eq(x, y), within(2, p("p", x))))), and(p("p", h(0)), within(k, or(eq(h(n), b(n+5)), within(2, p("p", h(n+2)))))))
		for i, hull := range rightHulls() {
			c := and(p("p", hull(x), y), within(k, and(p("q", hull(y), hull(x)), not(le(y, num(0))))))
			checkApplyClaim(t, l, c, and(p("p", hull(h(0)), b(5)), within(k, and(p("q", hull(b(n+5)), hull(h(n))), not(le(b(n+5), num(0)))))))
			checkApplyClaim(t, list{to("x", hull(b(3)))}, within(k, p("p", x)), within(k, p("p", bind.Lift(hull(b(3)), k))))
			if i == 0 {
				checkApplyClaim(t, list{to("x", hull(b(3)))}, within(k, p("p", x)), within(k, p("p", hull(b(n+3)))))
			}
		}
	}
	for _, c := range []api.Claim{forAll("x", "A", p("p", x)), exists("x", "A", p("p", x))} {
		checkApplyClaim(t, l, c, api.Claim{Op: c.Op, Name: "x", Sort: "A", Subs: []api.Claim{p("p", h(1))}})
	}
	for _, c := range []api.Claim{not(p("p", x)), and(p("p", x), p("p", x)), or(p("p", x), p("p", x)), imp(p("p", x), p("p", x)), iff(p("p", x), p("p", x))} {
		checkApplyClaim(t, l, c, made(c.Op, slices.Repeat([]api.Claim{p("p", h(0))}, len(c.Subs))...))
	}
}

// Lift tells what becomes of numbers that do not fit.
func TestApplyClaimWithGreatNumbers(t *testing.T) {
	x := v("x")
	checkApplyClaim(t, list{to("x", b(greatest))}, p("p", x), p("p", b(greatest)))
	checkApplyClaim(t, list{to("x", b(greatest))}, within(1, p("p", x)), within(1, p("p", b(0))))
	checkApplyClaim(t, list{to("x", app("f", b(greatest-2), b(0)))}, within(2, p("p", x)), within(2, p("p", app("f", b(greatest), b(2)))))
	checkApplyClaim(t, list{to("x", app("f", b(greatest-2), b(0)))}, within(3, p("p", x)), within(3, p("p", app("f", b(0), b(3)))))
	checkApplyClaim(t, list{to("x", num(1))}, within(2, p("p", x, b(greatest), b(greatest-1))), within(2, p("p", num(1), b(greatest), b(greatest-1))))
}

// A binder's own name makes no difference and stays.
func TestApplyClaimWithinNamesakes(t *testing.T) {
	x, y := v("x"), v("y")
	l := list{to("x", app("f", y)), to("y", b(0))}
	for _, name := range []string{"", "x", "y", "z", "\xff"} {
		c := forAll(name, "x", exists(name, "y", p("p", x, y, b(0), b(1), b(2))))
		checkApplyClaim(t, l, c, forAll(name, "x", exists(name, "y", p("p", app("f", y), b(2), b(0), b(1), b(2)))))
	}
	checkApplyClaim(t, list{to("x", y)}, bind.All("y", "A", p("p", x, y)), forAll("y", "A", p("p", y, b(0))))
}

func TestThen(t *testing.T) {
	x, y, z, c := v("x"), v("y"), v("z"), app("c")
	f := func(l ...api.Term) api.Term { return app("f", l...) }
	checkThen(t, list{to("x", y)}, list{to("y", c)}, list{to("x", c), to("y", c)})
	checkThen(t, nil, nil, nil)
	checkThen(t, list{}, nil, nil)
	checkThen(t, nil, list{to("x", x), to("y", f(x))}, list{to("x", x), to("y", f(x))})
	checkThen(t, list{to("x", x), to("y", f(x))}, nil, list{to("x", x), to("y", f(x))})
	// no name in common: before, between and behind
	checkThen(t, list{to("b", x), to("d", f(y))}, list{to("a", z), to("c", c), to("e", f(z))}, list{to("a", z), to("b", x), to("c", c), to("d", f(y)), to("e", f(z))})
	checkThen(t, list{to("a", c)}, list{to("b", z)}, list{to("a", c), to("b", z)})
	checkThen(t, list{to("b", c)}, list{to("a", z)}, list{to("a", z), to("b", c)})
	// names in common
	checkThen(t, list{to("x", c), to("y", z)}, list{to("x", z), to("y", x)}, list{to("x", c), to("y", z)})
	checkThen(t, list{to("x", f(x)), to("z", c)}, list{to("x", y), to("y", c)}, list{to("x", f(y)), to("y", c), to("z", c)})
	checkThen(t, list{to("x", x)}, list{to("x", c)}, list{to("x", c)})
	checkThen(t, list{to("x", c)}, list{to("x", x)}, list{to("x", c)})
	// all at once, also what b does to the terms of a
	checkThen(t, list{to("x", f(x, y, z)), to("z", y)}, list{to("x", y), to("y", x)}, list{to("x", f(y, x, z)), to("y", x), to("z", x)})
	checkThen(t, list{to("x", y), to("y", f(x))}, list{to("y", f(y))}, list{to("x", f(y)), to("y", f(x))})
	checkThen(t, list{to("x", y)}, list{to("x", c)}, list{to("x", y)})
	// the terms of b stay as they are
	checkThen(t, list{to("x", c)}, list{to("y", f(x, y))}, list{to("x", c), to("y", f(x, y))})
	checkThen(t, list{to("x", c)}, list{to("y", z), to("z", y)}, list{to("x", c), to("y", z), to("z", y)})
	checkThen(t, list{to("", x)}, list{to("x", v("")), to("", c)}, list{to("", v("")), to("x", v(""))})
	checkThen(t, list{to("\xff", x)}, list{to("z", c), to("x", b(2))}, list{to("x", b(2)), to("z", c), to("\xff", b(2))})
	// a variable with Args goes as a whole
	checkThen(t, list{to("x", withArgs(y, x)), to("y", withArgs(z, y))}, list{to("y", c)}, list{to("x", c), to("y", withArgs(z, c))})
}

// Of each name the first pair counts, in either list, and the names increase whatever the lists are.
func TestThenOfWrongLists(t *testing.T) {
	x, y, z, c := v("x"), v("y"), v("z"), app("c")
	checkThen(t, list{to("z", y), to("x", c)}, nil, list{to("x", c), to("z", y)})
	checkThen(t, nil, list{to("z", y), to("x", c)}, list{to("x", c), to("z", y)})
	checkThen(t, list{to("x", y), to("x", z)}, nil, list{to("x", y)})
	checkThen(t, nil, list{to("x", y), to("x", z)}, list{to("x", y)})
	checkThen(t, list{to("x", y), to("x", z)}, list{to("z", c)}, list{to("x", y), to("z", c)})
	checkThen(t, list{to("x", y), to("x", z)}, list{to("y", c), to("y", x)}, list{to("x", c), to("y", c)})
	checkThen(t, list{to("x", z)}, list{to("y", z), to("x", c), to("y", c), to("x", y)}, list{to("x", z), to("y", z)})
	checkThen(t, list{to("z", y), to("x", x), to("z", c), to("y", z), to("x", c)}, list{to("z", num(1)), to("w", x), to("x", num(2)), to("w", c), to("z", num(3))},
		list{to("w", x), to("x", num(2)), to("y", num(1)), to("z", y)})
	checkThen(t, list{to("b", x), to("a", x), to("b", y), to("a", y)}, list{to("y", c), to("x", app("f", x)), to("a", c), to("x", c)}, list{to("a", app("f", x)), to("b", app("f", x)), to("x", app("f", x)), to("y", c)})
	checkThen(t, list{to("x", api.Term{}), to("a", b(-1))}, list{to("x", c)}, list{to("a", b(-1)), to("x", api.Term{})})
}

func TestRename(t *testing.T) {
	x, y, z := v("x"), v("y"), v("z")
	whole := func(a, b api.Term) api.Claim {
		return and(p("p", a, b, app("x", a), a), forAll("x", "A", or(eq(a, app("f", sample.Bound(0), b)), within(2, le(add(a, num(1)), b)))))
	}
	checkRename(t, whole(x, y), "x", "z", whole(z, y))
	checkRename(t, whole(x, y), "x", "y", whole(y, y))
	checkRename(t, whole(x, y), "y", "x", whole(x, x))
	checkRename(t, whole(x, y), "x", "x", whole(x, y))
	checkRename(t, whole(x, y), "z", "x", whole(x, y))
	checkRename(t, whole(x, y), "z", "w", whole(x, y))
	checkRename(t, whole(x, y), "f", "w", whole(x, y))
	checkRename(t, whole(x, y), "x", "", whole(v(""), y))
	checkRename(t, whole(v(""), y), "", "x", whole(x, y))
	checkRename(t, whole(v("\xff"), y), "\xff", "\xfe", whole(v("\xfe"), y))
	checkRename(t, whole(v("xx"), v("X")), "x", "z", whole(v("xx"), v("X")))
	checkRename(t, sample.True(), "x", "y", sample.True())
	checkRename(t, p("x"), "x", "y", p("x"))
	checkRename(t, forAll("x", "x", p("p", b(0), x)), "x", "y", forAll("x", "x", p("p", b(0), y)))
}

// All calls against the model, for all small lists, terms and claims.

// someTerms are small terms, right and wrong ones.
func someTerms() []api.Term {
	x, y := v("x"), v("y")
	l := []api.Term{{}, x, y, v(""), v("z"), app("x"), app("c"), num(5), b(0), b(1), b(-1), b(greatest), withArgs(x, y), withArgs(v("z"), x), withArgs(b(1), y, x), {Op: api.TVar, Name: "y", Num: 3}, {Op: 9, Name: "x", Num: 2, Args: []api.Term{x}}}
	for _, a := range []api.Term{x, y, v(""), b(0), b(2)} {
		for _, hull := range hulls() {
			l = append(l, hull(a))
		}
		l = append(l, app("g", a, x, app("f", y, a)))
	}
	return l
}

// pairTerms are terms that lists put in: few, but of every kind.
func pairTerms() []api.Term {
	x, y := v("x"), v("y")
	return []api.Term{x, app("f", y, x), b(0), app("g", b(1), app("f", y)), withArgs(y, x), b(-1)}
}

// someLists are all small lists, right and wrong ones.
func someLists() []list {
	l := listsOf(2, []string{"", "x", "y"}, pairTerms())
	return append(l, listsOf(3, []string{"x", "y", "z"}, []api.Term{v("y"), app("f", v("x"))})...)
}

// rightClaims are small right claims of all small right terms, within up to three binders.
func rightClaims(t *testing.T) []api.Claim {
	var l []api.Claim
	x, y := v("x"), v("y")
	for _, a := range someTerms() {
		if term.Right(a) == api.OK {
			l = append(l, p("p", a), within(1, eq(a, y)), and(p("q", a, x), within(2, or(le(a, b(1)), p("r")))), within(3, not(p("p", y, a))))
		}
	}
	l = append(l, sample.True(), sample.False(), p("x"), iff(p("p", x), exists("", "A", imp(p("p", y), forAll("y", "B", eq(x, b(1)))))))
	for _, c := range l {
		if e := claim.Right(c); e != api.OK {
			t.Fatal(text(c), e)
		}
	}
	return l
}

func TestPairsFollowTheChapter(t *testing.T) {
	all := someLists()
	for _, l := range all {
		checkRight(t, l, wantRight(l))
		for _, name := range []string{"", "x", "y", "w", "xx", "z"} {
			if x, ok := wantGet(l, name); ok {
				checkGet(t, l, name, x)
			} else {
				checkGet(t, l, name)
			}
			for _, x := range pairTerms()[:4] {
				checkPut(t, l, name, x, wantPut(l, name, x))
			}
		}
	}
	for i, l := range all {
		for j := range 300 {
			m := all[(i+j*j)%len(all)]
			checkSame(t, l, m, wantSame(l, m))
		}
	}
}

func TestCallsFollowTheChapter(t *testing.T) {
	terms, claims := someTerms(), rightClaims(t)
	for _, l := range someLists() {
		for _, x := range terms {
			checkApply(t, l, x, wantApply(l, x))
		}
		for _, c := range claims {
			if rightTerms(l) {
				checkApplyClaim(t, l, c, wantApplyClaim(l, c))
			}
		}
	}
	for _, c := range claims {
		for _, from := range []string{"", "x", "y", "z", "f", "c"} {
			for _, into := range []string{"", "x", "y", "w"} {
				checkRename(t, c, from, into, wantApplyClaim(list{to(from, v(into))}, c))
			}
		}
	}
}

func TestThenFollowsTheChapter(t *testing.T) {
	short := listsOf(2, []string{"x", "y"}, pairTerms())
	for _, a := range short {
		for _, b := range short {
			checkThen(t, a, b, wantThen(a, b))
		}
	}
	all := someLists()
	for i, a := range all {
		for j := range 40 {
			b := all[(i+j*j*7)%len(all)]
			checkThen(t, a, b, wantThen(a, b))
		}
	}
}

// Rules of all layers: memory, ends, limits.

// Whatever becomes of an argument or of an answer, the other one stays as it was.
func TestAnswersShareNoMemory(t *testing.T) {
	l := func() list {
		return list{to("x", app("f", v("y"), app("g", b(0)))), to("y", app("h", v("x")))}
	}
	a, m, x := l(), l(), app("g", v("x"), app("g", v("y"), v("x")))
	c := and(p("p", x), forAll("u", "A", p("p", v("x"), v("z"))))
	calls := map[string]func() sample.Data{
		"Get":        func() sample.Data { y, _ := Get(a, "x"); return asTerms(y) },
		"Put":        func() sample.Data { return asLists(Put(a, "z", x)) },
		"Put again":  func() sample.Data { return asLists(Put(a, "x", x)) },
		"Apply":      func() sample.Data { return asTerms(Apply(a, x)) },
		"nothing":    func() sample.Data { return asTerms(Apply(nil, x)) },
		"ApplyClaim": func() sample.Data { return asClaims(ApplyClaim(a, c)) },
		"Then":       func() sample.Data { return asLists(Then(a, m)) },
		"Then none":  func() sample.Data { return asLists(Then(a, nil), Then(nil, m)) },
		"Rename":     func() sample.Data { return asClaims(Rename(c, "z", "w"), Rename(c, "w", "z")) },
	}
	for name, call := range calls {
		if said := sample.Tied(call, asLists(a, m).With(asTerms(x)).With(asClaims(c))); said != "" {
			t.Error(name, said)
		}
		a, m, x = l(), l(), app("g", v("x"), app("g", v("y"), v("x")))
		c = and(p("p", x), forAll("u", "A", p("p", v("x"), v("z"))))
	}
}

// A term that is put in twice is put in twice in memory of its own.
func TestTermsPutInTwice(t *testing.T) {
	big := app("f", v("z"), app("g", v("z")))
	l := list{to("x", big), to("y", big)}
	for _, d := range []sample.Data{
		asTerms(Apply(l, app("h", v("x"), v("x"), v("y")))),
		asClaims(ApplyClaim(l, and(eq(v("x"), v("x")), within(2, p("p", v("x"), v("y")))))),
		asLists(Then(l, nil), Then(nil, l), Then(list{to("a", v("x")), to("b", v("x"))}, l)),
		asLists(Put(l, "z", big)),
	} {
		if d.Shares(sample.Data{}) || d.Shares(asLists(l)) {
			t.Error(d.Text())
		}
	}
}

// Nothing is written behind the lists of an argument, and nothing that is appended to an answer is seen.
func TestRoomBehindLists(t *testing.T) {
	room := list{to("b", app("f", v("x"))), to("d", v("y")), to("free", v("free")), to("free", v("free"))}
	before := twin(room)
	l := room[:2]
	args := []api.Term{v("b"), v("free"), v("free")}
	x := api.Term{Op: api.TApp, Name: "f", Args: args[:1]}
	for _, name := range []string{"a", "b", "c", "d", "e"} {
		_ = append(Put(l, name, x), to("spoilt", x))
	}
	for _, m := range []list{nil, {to("e", x)}, l, room[1:3]} {
		_ = append(Then(l, m), to("spoilt", x), to("spoilt", x))
		_ = append(Then(m, l), to("spoilt", x), to("spoilt", x))
		_ = append(Apply(l, x).Args, v("spoilt"))
		_ = append(Apply(m, x).Args, v("spoilt"))
		_ = append(ApplyClaim(m, p("p", args[:1]...)).Terms, v("spoilt"))
	}
	got, _ := Get(l, "b")
	_ = append(got.Args, v("spoilt"))
	if !equalLists(room, before) || !equalTerms(app("f", args...), app("f", v("b"), v("free"), v("free"))) {
		t.Error(listText(room), sample.TermTexts(args))
	}
}

// For wrong claims, and wrong terms within claims, the calls end.
func TestWrongClaims(t *testing.T) {
	var l []api.Claim
	for _, op := range []int{math.MinInt64, -1, 0, 1, 2, 3, 4, 5, 6, 7, 8, 9, 10, 11, 12, 13, 1<<32 + 11, greatest} {
		for _, x := range append(someTerms(), sample.SizedTerm(5000), chain(200, v("x"))) {
			l = append(l, withTerms(made(op, p("p", x), made(op, within(1, p("p", x)))), x, x), withTerms(within(2, withTerms(made(op), x)), x))
		}
	}
	l = append(l, api.Claim{}, made(api.CAll), made(api.CNot), made(api.CEx, p("p"), p("q"), p("r")), sample.Heavy(5000), sample.SizedClaim(5000), sample.Nots(500, p("p", v("x"))))
	some := append(listsOf(1, []string{"x", ""}, pairTerms()), list{to("x", api.Term{}), to("x", b(math.MinInt64)), to("y", app("f", b(greatest), b(-1)))})
	for _, c := range l {
		for _, s := range some {
			unchanged(t, func() { ApplyClaim(s, c) }, asLists(s).With(asClaims(c)))
		}
		unchanged(t, func() { Rename(c, "x", "y") }, asClaims(c))
	}
}

// Terms and claims may be far larger and deeper than any right one, and lists far longer.
func TestDeepAndLarge(t *testing.T) {
	const n = 1 << 16
	x, y := v("x"), v("y")
	checkApply(t, list{to("x", app("f", y))}, chain(n, x), chain(n, app("f", y)))
	checkApply(t, list{to("x", chain(n, y))}, app("g", x), app("g", chain(n, y)))
	checkThen(t, list{to("a", chain(n, x))}, list{to("x", y)}, list{to("a", chain(n, y)), to("x", y)})
	checkPut(t, list{to("x", chain(n, y))}, "a", chain(n, x), list{to("a", chain(n, x)), to("x", chain(n, y))})
	checkGet(t, list{to("x", chain(n, y))}, "x", chain(n, y))
	checkSame(t, list{to("x", chain(n, y))}, list{to("x", chain(n, y))}, true)
	checkSame(t, list{to("x", chain(n, y))}, list{to("x", chain(n, x))}, false)
	checkRight(t, list{to("x", chain(n, y))}, api.ErrDeep)
	checkApplyClaim(t, list{to("x", app("f", b(1), y))}, within(n, p("p", x, b(n-1))), within(n, p("p", app("f", b(n+1), y), b(n-1))))
	checkRename(t, sample.Nots(n, p("p", x)), "x", "y", sample.Nots(n, p("p", y)))
	checkApplyClaim(t, list{to("x", app("f", b(1)))}, within(63, sample.Heavy(4000)), within(63, withTerms(sample.Heavy(4000), heavyTerms(app("f", b(64)))...)))
}

// heavyTerms are the terms of a claim with 4000 parts, with to in place of x.
func heavyTerms(to api.Term) []api.Term {
	var l []api.Term
	for _, t := range sample.Heavy(4000).Terms {
		l = append(l, term.Replace(t, v("x"), to))
	}
	return l
}

// There may be as many pairs as there are variables; each is looked for.
func TestLongLists(t *testing.T) {
	const n = 30000
	var up, down, both list
	var vars, put []api.Term
	for i := range n {
		name := "x" + strconv.Itoa(100000+i)
		up = append(up, to(name, num(int64(i))))
		vars, put = append(vars, v(name)), append(put, num(int64(i)))
	}
	down = slices.Clone(up)
	slices.Reverse(down)
	both = append(slices.Clone(down), list{to("x100000", v("z")), to("x100001", v("z"))}...)
	slices.Reverse(vars)
	slices.Reverse(put)
	for _, l := range []list{up, down, both} {
		checkApply(t, l, app("f", vars...), app("f", put...))
		checkThen(t, l, nil, up)
		checkThen(t, nil, l, up)
		checkThen(t, l, list{to("x129999", v("z")), to("y", v("z"))}, append(slices.Clip(up), to("y", v("z"))))
	}
	checkApplyClaim(t, up, within(1, p("p", vars...)), within(1, p("p", put...)))
	checkRight(t, up, api.OK)
	checkRight(t, down, api.ErrSame)
	checkGet(t, down, "x100000", num(0))
	checkPut(t, up, "y", v("z"), append(slices.Clip(up), to("y", v("z"))))
	checkPut(t, up, "a", v("z"), append(list{to("a", v("z"))}, up...))
	long := strings.Repeat("x", 1<<16)
	checkApply(t, list{to(long+"y", num(1)), to(long, num(2))}, app("f", v(long), v(long+"z")), app("f", num(2), v(long+"z")))
}

// Promise 10.3.

func checkOneAfterTheOther(t *testing.T, a, b, both list, terms []api.Term, claims []api.Claim) {
	t.Helper()
	for _, x := range terms {
		if got, want := Apply(both, x), Apply(b, Apply(a, x)); !term.Same(got, want) {
			t.Fatalf("%s, then %s, of %s: %s; want %s", listText(a), listText(b), termText(x), termText(got), termText(want))
		}
	}
	for _, c := range claims {
		if got, want := ApplyClaim(both, c), ApplyClaim(b, ApplyClaim(a, c)); !claim.Same(got, want) {
			t.Fatalf("%s, then %s, of %s: %s; want %s", listText(a), listText(b), text(c), text(got), text(want))
		}
	}
}

// All lists, terms and claims of a small set.
func TestThenIsOneAfterTheOther(t *testing.T) {
	x, y := v("x"), v("y")
	short := listsOf(2, []string{"x", "y"}, []api.Term{x, app("f", y, x), app("f", b(0), y)})
	terms := []api.Term{x, y, v("z"), b(0), num(1), app("x"), app("f", x, app("f", y, b(1))), add(x, neg(y)), withArgs(x, y), withArgs(v("z"), y, x)}
	claims := []api.Claim{p("p", x, y), p("x"), eq(b(0), x), within(1, p("p", x, b(0), b(1))), within(2, le(x, app("f", y, b(1)))), and(p("p", x), exists("y", "A", imp(p("p", y), forAll("x", "A", p("q", x, b(2))))))}
	for _, a := range short {
		for _, b := range short {
			checkOneAfterTheOther(t, a, b, Then(a, b), terms, claims)
		}
	}
}

// Parts of a set that is too great for all of it.
func TestThenIsOneAfterTheOtherForMore(t *testing.T) {
	terms, claims := someTerms(), rightClaims(t)
	short := listsOf(2, []string{"x", "y"}, pairTerms())
	for i, a := range short {
		for j, b := range short {
			n, m := (i+j)%len(terms), (i+j)%len(claims)
			if checkOneAfterTheOther(t, a, b, Then(a, b), terms[n:min(n+9, len(terms))], nil); rightTerms(a, b) {
				checkOneAfterTheOther(t, a, b, Then(a, b), nil, claims[m:min(m+9, len(claims))])
			}
		}
	}
}

// rightTerms tells whether all terms of the lists are right.
func rightTerms(l ...list) bool {
	return !slices.ContainsFunc(slices.Concat(l...), func(q api.Pair) bool { return term.Right(q.Term) != api.OK })
}

// Claims that are the same up to the names of binders stay the same, and keep those names.
func TestNamesOfBindersDoNotMatter(t *testing.T) {
	for _, l := range listsOf(2, []string{"x", "y"}, []api.Term{v("x"), v("y"), app("f", v("y"), b(0)), b(1)}) {
		for _, c := range rightClaims(t) {
			want := ApplyClaim(l, c)
			for _, names := range [][]string{{"x"}, {"y", "x"}, {""}, {"z", "x", "y"}} {
				other := renamed(c, names...)
				if got := ApplyClaim(l, other); !claim.Same(got, want) || !equal(got, renamed(want, names...)) {
					t.Fatalf("%s of %s: %s; want %s", listText(l), text(other), text(got), text(want))
				}
			}
		}
	}
}

// What a binder binds is never taken for a variable: substituting and opening may go either way round.
func TestNoCapture(t *testing.T) {
	for _, l := range listsOf(2, []string{"x", "y"}, []api.Term{v("x"), v("y"), v("u"), app("f", v("y"), v("u"))}) {
		for _, c := range rightClaims(t) {
			for _, x := range []api.Term{v("x"), v("u"), app("g", v("y"), v("x"))} {
				got := bind.Open(ApplyClaim(l, forAll("u", "A", c)).Subs[0], Apply(l, x))
				if want := ApplyClaim(l, bind.Open(c, x)); !claim.Same(got, want) {
					t.Fatalf("%s of %s, opened with %s: %s; want %s", listText(l), text(c), termText(x), text(got), text(want))
				}
			}
		}
	}
}

// A variable that a binder binds is none of the claim any more, whatever is put in for its name.
func TestBoundVariablesStay(t *testing.T) {
	for _, l := range listsOf(1, []string{"x"}, []api.Term{v("x"), v("y"), app("f", v("y"))}) {
		for _, c := range rightClaims(t) {
			for _, whole := range []api.Claim{bind.All("x", "A", c), bind.Ex("x", "A", c)} {
				if got := ApplyClaim(l, whole); !equal(got, whole) {
					t.Fatalf("%s of %s: %s", listText(l), text(whole), text(got))
				}
			}
		}
	}
}

// Put keeps lists right, and Get finds what it put.
func TestPutThenGet(t *testing.T) {
	for _, l := range someLists() {
		for _, name := range []string{"", "a", "x", "xx", "y", "z", "zz"} {
			for _, x := range pairTerms() {
				got := Put(l, name, x)
				if Right(l) == api.OK && term.Right(x) == api.OK && Right(got) != api.OK {
					t.Errorf("%s is not right", listText(got))
				}
				if y, ok := Get(got, name); !ok || !term.Same(x, y) {
					t.Errorf("%q is not in %s", name, listText(got))
				}
				for _, other := range []string{"", "x", "y", "z", "w"} {
					a, in := Get(l, other)
					if b, still := Get(got, other); other != name && (in != still || !term.Same(a, b)) {
						t.Errorf("%q is another one in %s", other, listText(got))
					}
				}
			}
		}
	}
}

// Then has increasing names, so that it is right if its terms are.
func TestThenIsRight(t *testing.T) {
	for _, a := range someLists() {
		for _, b := range listsOf(1, []string{"x", "y"}, pairTerms()) {
			if got := Then(a, b); rightTerms(a, b) && Right(got) != api.OK {
				t.Errorf("%s, then %s: %s", listText(a), listText(b), listText(got))
			}
		}
	}
}
