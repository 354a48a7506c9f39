package claim

import (
	"cmp"
	"math"
	"slices"
	"sort"
	"strconv"
	"strings"
	"testing"

	"sequitur/api"
	"sequitur/sample"
	"sequitur/term"
)

// Short names for what the tests are full of.
var (
	v, num, bound, app  = sample.Var, sample.Num, sample.Bound, sample.App
	truth, falsity      = sample.True, sample.False
	pred, eq, le, made  = sample.Pred, sample.Eq, sample.Le, sample.Made
	not, and, or, imp   = sample.Not, sample.And, sample.Or, sample.Imp
	iff, forAll, exists = sample.Iff, sample.All, sample.Ex
	withTerms, withSubs = sample.WithTerms, sample.WithSubs
	chain, sizedTerm    = sample.Chain, sample.SizedTerm
	nots, sized, heavy  = sample.Nots, sample.SizedClaim, sample.Heavy
	equal, twin         = sample.EqualClaims, sample.TwinClaim
	spoil, spoilTerm    = sample.SpoilClaim, sample.SpoilTerm
	text, texts         = sample.ClaimText, sample.ClaimTexts
	termTexts           = sample.TermTexts
)

// What the chapter says, word by word, with nothing of the package in it; terms are left to layer 7.

// listed are all parts of c in preorder, repeated ones too.
func listed(c api.Claim) []api.Claim {
	l := []api.Claim{c}
	for _, s := range c.Subs {
		l = append(l, listed(s)...)
	}
	return l
}

func wantSize(c api.Claim) int {
	n := 0
	for _, p := range listed(c) {
		n++
		for _, t := range p.Terms {
			n += term.Size(t)
		}
	}
	return min(n, 4097)
}

func wantDepth(c api.Claim) int {
	d := 1
	for _, s := range c.Subs {
		d = max(d, wantDepth(s)+1)
	}
	return min(d, 65)
}

// numbers are, for an Op, the fewest and the most Terms, and the number of Subs.
func numbers() map[int][3]int {
	return map[int][3]int{1: {}, 2: {}, 3: {0, 8, 0}, 4: {2, 2, 0}, 5: {2, 2, 0}, 6: {0, 0, 1}, 7: {0, 0, 2}, 8: {0, 0, 2}, 9: {0, 0, 2}, 10: {0, 0, 2}, 11: {0, 0, 1}, 12: {0, 0, 1}}
}

func wantPart(p api.Claim) api.Errno {
	n, known := numbers()[p.Op]
	if !known || p.Name != "" && !slices.Contains([]int{3, 11, 12}, p.Op) || p.Sort != "" && p.Op != 11 && p.Op != 12 {
		return api.ErrForm
	}
	if len(p.Terms) < n[0] || len(p.Terms) > n[1] || len(p.Subs) != n[2] {
		return api.ErrArity
	}
	for _, t := range p.Terms {
		if e := term.Right(t); e != api.OK {
			return e
		}
	}
	return api.OK
}

func wantRight(c api.Claim) api.Errno {
	if wantDepth(c) > 64 {
		return api.ErrDeep
	}
	if wantSize(c) > 4096 {
		return api.ErrLong
	}
	for _, p := range listed(c) {
		if e := wantPart(p); e != api.OK {
			return e
		}
	}
	return api.OK
}

// nameless is c without the names of its binders.
func nameless(c api.Claim) api.Claim {
	r := api.Claim{Op: c.Op, Name: c.Name, Sort: c.Sort, Terms: c.Terms}
	if c.Op == 11 || c.Op == 12 {
		r.Name = ""
	}
	for _, s := range c.Subs {
		r.Subs = append(r.Subs, nameless(s))
	}
	return r
}

func wantSame(a, b api.Claim) bool { return equal(nameless(a), nameless(b)) }

// wantCompare looks for the first part, in preorder, that differs: up to there both have the same parts at the same places.
func wantCompare(a, b api.Claim) int {
	k, l := listed(nameless(a)), listed(nameless(b))
	for i := range min(len(k), len(l)) {
		x, y := k[i], l[i]
		switch {
		case x.Op != y.Op:
			return cmp.Compare(x.Op, y.Op)
		case x.Name != y.Name:
			return strings.Compare(x.Name, y.Name)
		case x.Sort != y.Sort:
			return strings.Compare(x.Sort, y.Sort)
		case len(x.Terms) != len(y.Terms):
			return cmp.Compare(len(x.Terms), len(y.Terms))
		}
		for j := range x.Terms {
			if d := term.Compare(x.Terms[j], y.Terms[j]); d != 0 {
				return d
			}
		}
		if len(x.Subs) != len(y.Subs) {
			return cmp.Compare(len(x.Subs), len(y.Subs))
		}
	}
	return 0
}

func wantNames(l []api.Claim) []string {
	found := map[string]bool{}
	for _, c := range l {
		for _, p := range listed(c) {
			for _, t := range p.Terms {
				for _, name := range term.Names(t) {
					found[name] = true
				}
			}
		}
	}
	names := []string{}
	for name := range found {
		names = append(names, name)
	}
	sort.Strings(names)
	return names
}

func wantTerms(c api.Claim) []api.Term {
	var l []api.Term
	for _, p := range listed(c) {
		for _, t := range p.Terms {
			if !slices.ContainsFunc(l, func(u api.Term) bool { return term.Same(t, u) }) {
				l = append(l, t)
			}
		}
	}
	return l
}

func wantFlat(c api.Claim, op int) []api.Claim {
	if c.Op != op || op != 7 && op != 8 {
		return []api.Claim{c}
	}
	var l []api.Claim
	for _, s := range c.Subs {
		l = append(l, wantFlat(s, op)...)
	}
	return l
}

func wantAtoms(l []api.Claim) []api.Claim {
	var atoms []api.Claim
	add := func(l ...api.Claim) {
		for _, a := range l {
			if !slices.ContainsFunc(atoms, func(b api.Claim) bool { return wantSame(a, b) }) {
				atoms = append(atoms, a)
			}
		}
	}
	for _, c := range l {
		switch c.Op {
		case 6, 7, 8, 9, 10:
			add(wantAtoms(c.Subs)...)
		case 1, 2:
		default:
			add(c)
		}
	}
	return atoms
}

// unchanged calls f and holds the claims against what they were ahead of the call.
func unchanged(t *testing.T, f func(), l ...api.Claim) {
	t.Helper()
	if s := sample.Changed(f, l...); s != "" {
		t.Error(s)
	}
}

// fresh reports an answer that shares memory with the arguments, or within itself.
func fresh(t *testing.T, claims []api.Claim, terms []api.Term, arguments ...api.Claim) {
	t.Helper()
	if sample.Shares(api.Claim{Terms: terms, Subs: claims}, arguments...) {
		t.Errorf("the answer of %s shares memory: %s; %s", texts(arguments), texts(claims), termTexts(terms))
	}
}

func checkRight(t *testing.T, c api.Claim, want api.Errno) {
	t.Helper()
	unchanged(t, func() {
		t.Helper()
		if got := Right(c); got != want {
			t.Errorf("Right(%s) is %d; want %d", text(c), got, want)
		}
	}, c)
}

func checkMeasures(t *testing.T, c api.Claim, size, depth int) {
	t.Helper()
	unchanged(t, func() {
		t.Helper()
		if n, d := Size(c), Depth(c); n != size || d != depth {
			t.Errorf("%s has size %d and depth %d; want %d and %d", text(c), n, d, size, depth)
		}
	}, c)
}

func checkCompare(t *testing.T, a, b api.Claim, want int) {
	t.Helper()
	unchanged(t, func() {
		t.Helper()
		if got, back := Compare(a, b), Compare(b, a); got != want || back != -want {
			t.Errorf("Compare(%s; %s) is %d, and %d the other way round; want %d", text(a), text(b), got, back, want)
		}
		if got, back := Same(a, b), Same(b, a); got != (want == 0) || back != got {
			t.Errorf("Same(%s; %s) is %v, and %v the other way round", text(a), text(b), got, back)
		}
	}, a, b)
}

func checkNames(t *testing.T, want []string, l ...api.Claim) {
	t.Helper()
	unchanged(t, func() {
		t.Helper()
		if got := Names(l...); !slices.Equal(got, want) {
			t.Errorf("Names(%s) is %q; want %q", texts(l), got, want)
		}
	}, l...)
}

func checkTerms(t *testing.T, c api.Claim, want ...api.Term) {
	t.Helper()
	unchanged(t, func() {
		t.Helper()
		got := Terms(c)
		if !slices.EqualFunc(got, want, term.Same) {
			t.Errorf("Terms(%s) are %s; want %s", text(c), termTexts(got), termTexts(want))
		}
		fresh(t, nil, got, c)
	}, c)
}

// checkClaims holds what a call makes of the arguments against want.
func checkClaims(t *testing.T, call string, make func() []api.Claim, want []api.Claim, arguments ...api.Claim) {
	t.Helper()
	unchanged(t, func() {
		t.Helper()
		got := make()
		if !slices.EqualFunc(got, want, equal) {
			t.Errorf("%s of %s gives %s; want %s", call, texts(arguments), texts(got), texts(want))
		}
		fresh(t, got, nil, arguments...)
	}, arguments...)
}

func checkFlat(t *testing.T, c api.Claim, op int, want ...api.Claim) {
	t.Helper()
	checkClaims(t, "Flat by "+strconv.Itoa(op), func() []api.Claim { return Flat(c, op) }, want, c)
}

func checkAtoms(t *testing.T, l []api.Claim, want ...api.Claim) {
	t.Helper()
	checkClaims(t, "Atoms", func() []api.Claim { return Atoms(l...) }, want, l...)
}

func checkNot(t *testing.T, c, want api.Claim) {
	t.Helper()
	checkClaims(t, "Not", func() []api.Claim { return []api.Claim{Not(c)} }, []api.Claim{want}, c)
}

func checkAnd(t *testing.T, l []api.Claim, want api.Claim) {
	t.Helper()
	checkClaims(t, "And", func() []api.Claim { return []api.Claim{And(l...)} }, []api.Claim{want}, l...)
}

func checkOr(t *testing.T, l []api.Claim, want api.Claim) {
	t.Helper()
	checkClaims(t, "Or", func() []api.Claim { return []api.Claim{Or(l...)} }, []api.Claim{want}, l...)
}

func checkCopy(t *testing.T, c api.Claim) {
	t.Helper()
	checkClaims(t, "Copy", func() []api.Claim { return []api.Claim{Copy(c)} }, []api.Claim{c}, c)
}

// xs are n variables of the name x.
func xs(n int) []api.Term { return sample.Vars(n, "x") }

// wraps put a claim one level deeper, each in a way of its own.
func wraps() []func(api.Claim) api.Claim {
	a, b := pred("a"), le(v("x"), num(1))
	return []func(api.Claim) api.Claim{
		not,
		func(c api.Claim) api.Claim { return and(c, a) },
		func(c api.Claim) api.Claim { return and(a, c) },
		func(c api.Claim) api.Claim { return or(c, b) },
		func(c api.Claim) api.Claim { return or(truth(), c) },
		func(c api.Claim) api.Claim { return imp(b, c) },
		func(c api.Claim) api.Claim { return iff(c, falsity()) },
		func(c api.Claim) api.Claim { return forAll("x", "A", c) },
		func(c api.Claim) api.Claim { return exists("", "", c) },
	}
}

// proper is a right part with that Op, each time in new memory.
func proper(op int) api.Claim {
	switch op {
	case api.CTrue, api.CFalse:
		return made(op)
	case api.CPred:
		return pred("p", v("x"))
	case api.CEq, api.CLe:
		return api.Claim{Op: op, Terms: []api.Term{v("x"), v("y")}}
	case api.CNot, api.CAll, api.CEx:
		return made(op, pred("a"))
	}
	return made(op, pred("a"), pred("b"))
}

// leaves are claims without Subs, right and wrong ones.
func leaves() []api.Claim {
	x, y := v("x"), v("y")
	return []api.Claim{
		truth(), falsity(), pred("a"), pred("b"), pred(""), pred("\xff"), pred("a", x), pred("a", y), pred("a", x, y), pred("a", y, x), pred("b", x), pred("a", bound(0)), eq(x, y), eq(y, x), eq(x, x), le(x, y), le(x, num(1)), eq(app("f", x), x),
		{}, {Op: 13}, {Op: -1}, {Op: 13, Name: "a", Sort: "A"}, {Op: api.CTrue, Name: "a"}, {Op: api.CPred, Name: "a", Sort: "A"}, {Op: api.CPred, Name: "a", Sort: "B"}, {Op: api.CEq}, {Op: api.CLe, Name: "a", Terms: []api.Term{x, y}}, {Op: api.CNot}, {Op: api.CAnd}, {Op: api.COr},
		{Op: api.CAll, Name: "x", Sort: "A"}, {Op: api.CEx, Sort: "B"}, eq(x, api.Term{}), eq(api.Term{Op: api.TNeg}, x), pred("a", xs(8)...), pred("a", xs(9)...), withTerms(truth(), x), {Op: api.CPred, Name: "a", Terms: []api.Term{}, Subs: []api.Claim{}},
	}
}

// someClaims are small claims: the leaves, ways to put some of them together, and claims in which parts, terms and names occur several times.
func someClaims() []api.Claim {
	x, y := v("x"), v("y")
	l := leaves()
	small := []api.Claim{pred("a"), pred("b", x), eq(x, y), truth(), {}, {Op: api.CNot}}
	for _, a := range small {
		l = append(l, not(a), forAll("x", "A", a), forAll("y", "A", a), forAll("x", "B", a), exists("x", "A", a), exists("y", "A", a), forAll("", "", a), withSubs(pred("a"), a), withSubs(truth(), a), made(13, a), made(api.CAnd, a), made(api.CNot, a, a), made(api.COr, a, a, a))
		for _, b := range small[:4] {
			l = append(l, and(a, b), or(a, b), imp(a, b), iff(a, b), and(b, and(a, b)), and(or(a, b), a), or(or(b, a), and(a, a)), not(imp(a, not(b))), forAll("x", "A", exists("y", "A", or(a, b))), withTerms(not(a), x, y))
		}
	}
	a, b, c := pred("a"), pred("b"), pred("c")
	return append(l, nots(3, a), nots(9, a), and(and(a, b), c), and(a, and(b, c)), or(or(a, b), or(c, a)), iff(forAll("x", "A", a), forAll("y", "A", a)), or(exists("x", "A", a), exists("x", "B", a)), forAll("x", "A", forAll("y", "A", pred("p", bound(0), bound(1)))),
		forAll("y", "A", forAll("x", "A", pred("p", bound(0), bound(1)))), withTerms(and(pred("a", x, app("f", y)), eq(y, x)), y, app("f", y)), withTerms(forAll("x", "A", a), x, v("w")), and(pred("a", x), pred("a", x)), imp(pred("p", x, y, v("x'")), pred("p", v("X"), v("xx"), x)))
}

// Promise 8.1.

func TestRight(t *testing.T) {
	x, y := v("x"), v("y")
	for _, c := range []api.Claim{
		truth(), falsity(), pred("p"), pred("p", x), pred("p", xs(8)...), eq(x, y), le(num(3), x), not(truth()), and(pred("a"), pred("b")), or(falsity(), eq(x, x)), imp(pred("a"), pred("a")), iff(le(x, y), le(y, x)), forAll("x", "A", pred("p", bound(0))), exists("y", "Int", le(bound(0), x)),
		forAll("x", "A", exists("x", "A", not(eq(bound(0), bound(7))))), {Op: api.CPred, Name: "p", Terms: []api.Term{}, Subs: []api.Claim{}}, {Op: api.CTrue, Terms: []api.Term{}, Subs: []api.Claim{}}, {Op: api.CNot, Terms: []api.Term{}, Subs: []api.Claim{falsity()}},
	} {
		checkRight(t, c, api.OK)
	}
	checkRight(t, api.Claim{}, api.ErrForm)
	for op := api.CTrue; op <= api.CEx; op++ {
		checkRight(t, proper(op), api.OK)
	}
}

func TestWrongOps(t *testing.T) {
	for _, op := range []int{0, -1, 13, 14, 15, -7, 256 + 3, 1<<32 + 3, math.MaxInt, math.MinInt} {
		for _, n := range []int{0, 1, 2, 9} {
			for _, m := range []int{0, 1, 2, 3} {
				p := api.Claim{Op: op, Terms: xs(n), Subs: slices.Repeat([]api.Claim{truth()}, m)}
				checkRight(t, p, api.ErrForm)
				checkRight(t, and(truth(), forAll("x", "A", p)), api.ErrForm)
				checkMeasures(t, p, 1+n+m, min(m, 1)+1)
			}
		}
	}
}

func TestNumbersOfTermsAndSubs(t *testing.T) {
	for op, fit := range numbers() {
		for _, n := range []int{0, 1, 2, 3, 4, 5, 6, 7, 8, 9, 10, 100} {
			for _, m := range []int{0, 1, 2, 3, 4, 100} {
				p, want := api.Claim{Op: op, Terms: xs(n), Subs: slices.Repeat([]api.Claim{truth()}, m)}, api.ErrArity
				if n >= fit[0] && n <= fit[1] && m == fit[2] {
					want = api.OK
				}
				checkRight(t, p, want)
				checkRight(t, not(or(truth(), p)), want)
			}
		}
	}
	if api.MaxArgs != 8 {
		t.Error(api.MaxArgs)
	}
}

func someNames() []string {
	return []string{"", "x", " ", "\x00", "\xff\xfe", "true", "Bool", "1", "(", "ä", strings.Repeat("x", 33), strings.Repeat("x", api.MaxText+1)}
}

func TestNamesAndSortsOfParts(t *testing.T) {
	for op := api.CTrue; op <= api.CEx; op++ {
		for _, name := range someNames() {
			named, sorted := proper(op), proper(op)
			named.Name, sorted.Sort = name, name
			wantNamed, wantSorted := api.OK, api.OK
			if name != "" && op != api.CPred && op != api.CAll && op != api.CEx {
				wantNamed = api.ErrForm
			}
			if name != "" && op != api.CAll && op != api.CEx {
				wantSorted = api.ErrForm
			}
			checkRight(t, named, wantNamed)
			checkRight(t, sorted, wantSorted)
			checkRight(t, imp(truth(), not(named)), wantNamed)
			checkRight(t, imp(truth(), not(sorted)), wantSorted)
		}
	}
}

// wrongTerms are wrong terms, with their errors.
func wrongTerms() map[api.Errno][]api.Term {
	return map[api.Errno][]api.Term{
		api.ErrForm:  {{}, {Op: 9}, {Op: api.TVar, Num: 1}, {Op: api.TBound, Num: -1}, {Op: api.TNum, Name: "x"}, app("f", v("x"), api.Term{}), chain(63, api.Term{})},
		api.ErrArity: {{Op: api.TNeg}, {Op: api.TAdd, Args: xs(1)}, app("f", xs(9)...), app("f", v("x"), api.Term{Op: api.TVar, Args: xs(1)}), chain(62, api.Term{Op: api.TNeg})},
		api.ErrDeep:  {chain(64, v("x")), chain(65, v("x")), chain(1000, v("x")), app("f", v("x"), chain(63, v("x"))), chain(64, api.Term{})},
	}
}

func TestWrongTerms(t *testing.T) {
	for want, terms := range wrongTerms() {
		for _, w := range terms {
			if e := term.Right(w); e != want {
				t.Fatal(termTexts([]api.Term{w}), e)
			}
			for i := range 8 {
				l := xs(8)
				l[i] = w
				checkRight(t, pred("p", l...), want)
			}
			for _, c := range []api.Claim{eq(w, v("x")), eq(v("x"), w), le(w, w), le(v("x"), w), pred("p", w)} {
				checkRight(t, c, want)
				for _, wrap := range wraps() {
					checkRight(t, wrap(c), want)
					checkRight(t, wrap(wrap(c)), want)
				}
			}
		}
	}
}

// A claim's depth is that of its parts alone: terms may be deep in a claim that is not, and the other way round.
func TestTermsDoNotCountForTheDepth(t *testing.T) {
	deep := chain(63, v("x"))
	checkMeasures(t, eq(deep, deep), 129, 1)
	checkRight(t, eq(deep, deep), api.OK)
	checkMeasures(t, not(pred("p", deep)), 66, 2)
	checkRight(t, nots(63, eq(deep, deep)), api.OK)
	checkMeasures(t, nots(63, eq(deep, deep)), 192, 64)
	checkRight(t, nots(64, eq(deep, deep)), api.ErrDeep)
	deeper := chain(64, v("x"))
	checkMeasures(t, pred("p", deeper), 66, 1)
	checkRight(t, pred("p", deeper), api.ErrDeep)
	checkRight(t, and(api.Claim{}, pred("p", deeper)), api.ErrForm)
	checkRight(t, and(pred("p", deeper), api.Claim{}), api.ErrDeep)
	checkRight(t, and(made(api.CNot), pred("p", deeper)), api.ErrArity)
	checkRight(t, pred("p", append(xs(8), deeper)...), api.ErrArity)
	checkMeasures(t, pred("p", chain(5000, v("x"))), 4097, 1)
	checkRight(t, pred("p", chain(5000, v("x"))), api.ErrLong)
}

// Of one part, a wrong Op, Name or Sort comes ahead of a wrong number of Terms or Subs, and that ahead of its Terms; of several parts, the first one in preorder counts.
func TestTheFirstErrorCounts(t *testing.T) {
	form, arity := api.Claim{Op: api.CTrue, Name: "x"}, made(api.CNot)
	formTerm, arityTerm := api.Term{}, api.Term{Op: api.TNeg}
	checkRight(t, withTerms(form, v("x")), api.ErrForm)
	checkRight(t, withSubs(form, arity), api.ErrForm)
	checkRight(t, withTerms(form, arityTerm), api.ErrForm)
	checkRight(t, api.Claim{Op: api.CNot, Name: "x"}, api.ErrForm)
	checkRight(t, api.Claim{Op: api.CNot, Sort: "A"}, api.ErrForm)
	checkRight(t, api.Claim{Op: api.CPred, Sort: "A", Terms: xs(9)}, api.ErrForm)
	checkRight(t, api.Claim{Op: 13, Terms: xs(9), Subs: []api.Claim{arity}}, api.ErrForm)
	checkRight(t, pred("p", slices.Repeat([]api.Term{formTerm}, 9)...), api.ErrArity)
	checkRight(t, withTerms(truth(), formTerm), api.ErrArity)
	checkRight(t, withSubs(eq(formTerm, formTerm), form), api.ErrArity)
	checkRight(t, withTerms(not(form), formTerm), api.ErrArity)
	checkRight(t, made(api.CEx, form, form), api.ErrArity)
	checkRight(t, eq(formTerm, arityTerm), api.ErrForm)
	checkRight(t, eq(arityTerm, formTerm), api.ErrArity)
	checkRight(t, pred("p", v("x"), chain(64, v("x")), formTerm), api.ErrDeep)
	checkRight(t, and(eq(v("x"), formTerm), arity), api.ErrForm)
	checkRight(t, and(eq(v("x"), arityTerm), form), api.ErrArity)
	checkRight(t, and(not(not(le(arityTerm, v("x")))), form), api.ErrArity)
	checkRight(t, and(form, le(arityTerm, v("x"))), api.ErrForm)
	for _, wrap := range wraps() {
		checkRight(t, wrap(form), api.ErrForm)
		checkRight(t, wrap(arity), api.ErrArity)
		checkRight(t, wrap(withSubs(form, arity, arity)), api.ErrForm)
		checkRight(t, wrap(withSubs(arity, form, form)), api.ErrArity)
		checkRight(t, or(wrap(form), wrap(arity)), api.ErrForm)
		checkRight(t, or(wrap(arity), wrap(form)), api.ErrArity)
		checkRight(t, and(wrap(wrap(eq(v("x"), arityTerm))), form), api.ErrArity)
		checkRight(t, and(wrap(wrap(eq(v("x"), formTerm))), arity), api.ErrForm)
	}
}

// A part takes either Terms or Subs, so a part with a wrong term and a wrong Sub has a wrong number ahead of both; whatever the numbers, the term counts before the Sub.
func TestTermsOfAPartBeforeItsSubs(t *testing.T) {
	form, arity, deep := api.Term{}, api.Term{Op: api.TNeg}, chain(64, v("x"))
	checkRight(t, and(pred("p", deep), pred("q", form)), api.ErrDeep)
	checkRight(t, and(pred("p", form), pred("q", deep)), api.ErrForm)
	checkRight(t, and(and(truth(), pred("p", arity)), pred("q", form)), api.ErrArity)
	c := withTerms(and(pred("c", v("z")), pred("b", v("y"))), v("y"), v("x"))
	checkTerms(t, c, v("y"), v("x"), v("z"))
	checkRight(t, c, api.ErrArity)
}

func TestDepthAtTheLimit(t *testing.T) {
	for _, wrap := range wraps() {
		for _, leaf := range []api.Claim{truth(), pred("p", chain(9, v("x")))} {
			for _, n := range []int{1, 2, 62, 63, 64} {
				c := sample.Nested(n-1, leaf, wrap)
				checkRight(t, c, api.OK)
				checkMeasures(t, c, wantSize(c), n)
			}
			for _, n := range []int{65, 66, 67, 200, 1000} {
				c := sample.Nested(n-1, leaf, wrap)
				checkRight(t, c, api.ErrDeep)
				checkMeasures(t, c, wantSize(c), 65)
			}
		}
	}
	checkMeasures(t, nots(1<<16, truth()), 4097, 65)
	checkRight(t, nots(1<<16, truth()), api.ErrDeep)
	if api.MaxDepth != 64 {
		t.Error(api.MaxDepth)
	}
}

// The size counts the parts of the claim and those of its terms alike.
func TestSizeAtTheLimit(t *testing.T) {
	for n := range 300 {
		checkMeasures(t, sized(n+1), n+1, wantDepth(sized(n+1)))
		checkMeasures(t, heavy(n+1), n+1, 1)
	}
	for _, n := range []int{4094, 4095, 4096, 4097, 4098, 5000, 100000} {
		size, want := min(n, 4097), api.OK
		if n > 4096 {
			want = api.ErrLong
		}
		for _, c := range []api.Claim{sized(n), heavy(n), nots(45, sized(n-45)), nots(63, heavy(n-63)), and(sized(2000), heavy(n-2001)), and(heavy(3000), sized(n-3001)), exists("x", "A", eq(v("x"), sizedTerm(n-3)))} {
			checkRight(t, c, want)
			checkMeasures(t, c, size, wantDepth(c))
		}
	}
	var full []api.Claim
	for range 819 {
		full = append(full, eq(v("x"), app("f", v("y"))))
	}
	checkMeasures(t, withSubs(truth(), full...), 3277, 2)
	checkMeasures(t, withSubs(truth(), append(full, pred("p", xs(818)...))...), 4096, 2)
	checkMeasures(t, withSubs(truth(), append(full, pred("p", xs(819)...))...), 4097, 2)
	if api.MaxSize != 4096 {
		t.Error(api.MaxSize)
	}
}

// Lists may be far longer than any claim that is right.
func TestSizeFarBeyondTheLimit(t *testing.T) {
	terms, subs := make([]api.Term, 1<<20), make([]api.Claim, 1<<20)
	checkMeasures(t, pred("p", terms[:4095]...), 4096, 1)
	checkRight(t, pred("p", terms[:4095]...), api.ErrArity)
	checkMeasures(t, pred("p", terms[:4096]...), 4097, 1)
	checkRight(t, pred("p", terms[:4096]...), api.ErrLong)
	checkMeasures(t, pred("p", terms...), 4097, 1)
	checkRight(t, pred("p", terms...), api.ErrLong)
	checkMeasures(t, made(api.CAnd, subs[:4095]...), 4096, 2)
	checkRight(t, made(api.CAnd, subs[:4095]...), api.ErrArity)
	checkMeasures(t, made(api.CAnd, subs[:4096]...), 4097, 2)
	checkRight(t, made(api.CAnd, subs[:4096]...), api.ErrLong)
	checkMeasures(t, made(api.CAnd, subs...), 4097, 2)
	checkRight(t, made(api.CAnd, subs...), api.ErrLong)
	checkRight(t, made(api.CAnd, append(slices.Clone(subs), nots(63, truth()))...), api.ErrDeep)
	x := v("x")
	for range 60 {
		x = app("f", x, x)
	}
	both := pred("p", slices.Repeat([]api.Term{x}, 100000)...)
	if Size(both) != 4097 || Depth(both) != 1 || Right(both) != api.ErrLong {
		t.Error(Size(both), Depth(both), Right(both))
	}
}

// The depth comes ahead of the size, and both come ahead of whatever the parts and their terms are.
func TestLimitsComeFirst(t *testing.T) {
	wrong := []api.Claim{{}, {Op: 13}, made(api.CNot), withTerms(truth(), v("x")), eq(v("x"), api.Term{}), {Op: api.CTrue, Sort: "A"}, pred("p", chain(64, v("x")))}
	for _, w := range wrong {
		e := wantRight(w)
		checkRight(t, nots(62, w), e)
		checkRight(t, nots(64, w), api.ErrDeep)
		checkRight(t, withSubs(w, nots(64, truth())), api.ErrDeep)
		checkRight(t, withSubs(w, nots(1000, truth()), w), api.ErrDeep)
		checkRight(t, withSubs(w, sized(4096)), api.ErrLong)
		checkRight(t, withSubs(w, heavy(4096)), api.ErrLong)
		checkRight(t, withSubs(w, w, heavy(5000)), api.ErrLong)
		checkRight(t, withTerms(w, sizedTerm(4096)), api.ErrLong)
		checkRight(t, withTerms(nots(64, w), sizedTerm(4096)), api.ErrDeep)
		checkRight(t, withSubs(w, heavy(4096), nots(64, w)), api.ErrDeep)
		checkRight(t, and(w, and(heavy(3900), nots(60, w))), e)
		checkRight(t, and(heavy(3900), nots(60, w)), e)
	}
	for _, n := range []int{4033, 4096, 5000} {
		for _, large := range []api.Claim{sized(n), heavy(n)} {
			checkRight(t, and(large, nots(63, truth())), api.ErrDeep)
			checkRight(t, and(nots(63, truth()), large), api.ErrDeep)
			checkRight(t, and(large, nots(62, truth())), api.ErrLong)
			checkRight(t, nots(64, large), api.ErrDeep)
		}
	}
}

// In a claim beyond the greatest size the deepest part may stand anywhere.
func TestDepthOfLargeClaims(t *testing.T) {
	wide := slices.Repeat([]api.Claim{not(eq(v("x"), v("y")))}, 5000)
	for _, n := range []int{1, 2, 61, 62, 63, 64, 100} {
		for _, i := range []int{0, 1, 2500, 4999} {
			l, want := slices.Clone(wide), api.ErrLong
			l[i] = nots(n-1, truth())
			if n > 63 {
				want = api.ErrDeep
			}
			checkMeasures(t, made(api.CAnd, l...), 4097, min(max(n, 2)+1, 65))
			checkRight(t, made(api.CAnd, l...), want)
		}
	}
}

// Subs that several parts share in memory count for each of them: a claim may have more parts than anyone could visit.
func TestPartsThatShareMemory(t *testing.T) {
	a, b := truth(), falsity()
	for d := 2; d <= 70; d++ {
		a, b = and(a, b), or(b, a)
		size, want := 4097, api.ErrLong
		if d <= 12 {
			size, want = 1<<d-1, api.OK
		}
		if d > 64 {
			want = api.ErrDeep
		}
		if Size(a) != size || Depth(a) != min(d, 65) || Right(a) != want {
			t.Errorf("depth %d: size %d, depth %d, Right is %d", d, Size(a), Depth(a), Right(a))
		}
	}
	deep := []api.Claim{truth(), nots(50, truth())}
	few, more := api.Claim{Op: api.COr, Subs: deep[:1]}, api.Claim{Op: api.COr, Subs: deep}
	for _, l := range [][]api.Claim{{few, more}, {more, few}, {few, few, more, few, more}} {
		checkMeasures(t, made(api.CAnd, append(slices.Repeat([]api.Claim{truth()}, 5000), l...)...), 4097, 53)
	}
	within := make([]api.Claim, 1)
	within[0] = api.Claim{Op: api.CNot, Subs: within}
	if n, d, e := Size(within[0]), Depth(within[0]), Right(within[0]); n != 4097 || d != 65 || e != api.ErrDeep {
		t.Errorf("a claim within itself: size %d, depth %d, %d", n, d, e)
	}
}

func TestSizeAndDepthOfAnyClaim(t *testing.T) {
	checkMeasures(t, forAll("u", "A", eq(v("x"), bound(0))), 4, 2)
	checkMeasures(t, api.Claim{}, 1, 1)
	checkMeasures(t, api.Claim{Op: 13, Terms: make([]api.Term, 3), Subs: make([]api.Claim, 2)}, 6, 2)
	checkMeasures(t, withTerms(withSubs(pred("p"), withSubs(truth(), falsity())), app("f", v("x"))), 5, 3)
	for _, c := range someClaims() {
		checkMeasures(t, c, wantSize(c), wantDepth(c))
	}
}

// Promises 8.1 (Same) and 8.2.

func TestCompareByOp(t *testing.T) {
	ops := []int{math.MinInt, -1 << 32, -1, 0, 1, 2, 3, 4, 5, 6, 7, 8, 9, 10, 11, 12, 13, 1 << 32, math.MaxInt}
	for i, m := range ops {
		for j, n := range ops {
			want := cmp.Compare(i, j)
			checkCompare(t, made(m), made(n), want)
			checkCompare(t, and(truth(), made(m)), and(truth(), made(n)), want)
			if want < 0 {
				checkCompare(t, api.Claim{Op: m, Name: "z", Sort: "Z", Terms: xs(9), Subs: []api.Claim{truth()}}, made(n), -1)
			}
		}
	}
}

func TestCompareByEachField(t *testing.T) {
	checkCompare(t, api.Claim{}, api.Claim{}, 0)
	checkCompare(t, api.Claim{}, api.Claim{Terms: []api.Term{}, Subs: []api.Claim{}}, 0)
	checkCompare(t, not(pred("p", app("c"))), not(api.Claim{Op: api.CPred, Name: "p", Terms: []api.Term{{Op: api.TApp, Name: "c", Args: []api.Term{}}}, Subs: []api.Claim{}}), 0)
	names := []string{"", "\x00", "\x00\x00", "A", "AA", "AB", "B", "Z", "_", "a", "aa", "z", "\x7f", "\x80", "ä", "\xff", "\xff\xff"}
	for i, m := range names {
		for j, n := range names {
			want := cmp.Compare(i, j)
			checkCompare(t, pred(m, v("x")), pred(n, v("x")), want)
			checkCompare(t, not(or(truth(), pred(m))), not(or(truth(), pred(n))), want)
			checkCompare(t, api.Claim{Op: api.CNot, Name: m}, api.Claim{Op: api.CNot, Name: n}, want)
			checkCompare(t, api.Claim{Op: 13, Name: m}, api.Claim{Op: 13, Name: n}, want)
			checkCompare(t, forAll("x", m, truth()), forAll("x", n, truth()), want)
			checkCompare(t, not(exists("x", m, truth())), not(exists("x", n, truth())), want)
			checkCompare(t, api.Claim{Op: api.CPred, Sort: m}, api.Claim{Op: api.CPred, Sort: n}, want)
			checkCompare(t, eq(v("x"), v(m)), eq(v("x"), v(n)), want)
		}
	}
	for m := range 10 {
		for n := range 10 {
			checkCompare(t, pred("p", xs(m)...), pred("p", xs(n)...), cmp.Compare(m, n))
			checkCompare(t, not(withTerms(truth(), xs(m)...)), not(withTerms(truth(), xs(n)...)), cmp.Compare(m, n))
			few, more := slices.Repeat([]api.Claim{falsity()}, m), slices.Repeat([]api.Claim{falsity()}, n)
			checkCompare(t, made(api.CAnd, few...), made(api.CAnd, more...), cmp.Compare(m, n))
			checkCompare(t, forAll("x", "A", withSubs(truth(), few...)), forAll("y", "A", withSubs(truth(), more...)), cmp.Compare(m, n))
		}
	}
	for i := range 8 {
		l, s := xs(8), slices.Repeat([]api.Claim{truth()}, 8)
		l[i], s[i] = v("y"), falsity()
		checkCompare(t, pred("p", xs(8)...), pred("p", l...), -1)
		checkCompare(t, made(api.COr, slices.Repeat([]api.Claim{truth()}, 8)...), made(api.COr, s...), -1)
	}
}

func TestNamesOfBindersDoNotMatter(t *testing.T) {
	body := pred("p", bound(0), v("x"))
	for _, m := range someNames() {
		for _, n := range someNames() {
			checkCompare(t, forAll(m, "A", body), forAll(n, "A", body), 0)
			checkCompare(t, exists(m, "A", body), exists(n, "A", body), 0)
			checkCompare(t, not(imp(exists(m, "A", forAll(n, "B", body)), truth())), not(imp(exists(n, "A", forAll(m, "B", body)), truth())), 0)
			checkCompare(t, forAll(m, "A", body), forAll(n, "B", body), -1)
			checkCompare(t, forAll(m, "A", body), exists(n, "A", body), -1)
			checkCompare(t, forAll(m, "A", pred("p", bound(0))), forAll(n, "A", pred("p", bound(1))), -1)
			checkCompare(t, forAll(m, "A", and(truth(), pred("b"))), forAll(n, "A", and(truth(), pred("a"))), 1)
			checkCompare(t, api.Claim{Op: api.CAll, Name: m}, api.Claim{Op: api.CAll, Name: n, Terms: []api.Term{}}, 0)
		}
	}
	checkCompare(t, pred("x"), pred("y"), -1)
	checkCompare(t, forAll("x", "A", pred("x")), forAll("x", "A", pred("y")), -1)
	checkCompare(t, forAll("x", "A", eq(bound(0), v("x"))), forAll("y", "A", eq(bound(0), v("y"))), -1)
}

// Whatever comes earlier decides: Op, Name, Sort, the number of Terms, the Terms, the number of Subs, then the Subs.
func TestTheFirstDifferenceDecides(t *testing.T) {
	x, y := v("x"), v("y")
	checkCompare(t, api.Claim{Op: 3, Name: "a", Sort: "Z", Terms: xs(9), Subs: []api.Claim{truth()}}, pred("b"), -1)
	checkCompare(t, api.Claim{Op: 3, Name: "a", Sort: "A", Terms: xs(9), Subs: []api.Claim{truth()}}, api.Claim{Op: 3, Name: "a", Sort: "B"}, -1)
	checkCompare(t, forAll("z", "A", falsity()), forAll("a", "B", truth()), -1)
	checkCompare(t, forAll("z", "B", truth()), forAll("a", "A", falsity()), 1)
	checkCompare(t, pred("p", y), pred("p", x, x), -1)
	checkCompare(t, pred("p", num(9), num(9)), pred("p", x, x, x), -1)
	checkCompare(t, pred("p", x, y, x), pred("p", y, x, x), -1)
	checkCompare(t, withSubs(pred("p", x), truth(), truth()), pred("p", y), -1)
	checkCompare(t, withSubs(pred("p", x), falsity()), withSubs(pred("p", y), truth()), -1)
	checkCompare(t, withSubs(pred("p"), truth(), truth()), pred("p", x), -1)
	checkCompare(t, made(api.CAnd, falsity()), and(truth(), truth()), -1)
	checkCompare(t, and(truth(), falsity()), and(falsity(), truth()), -1)
	checkCompare(t, made(api.CAnd, truth(), truth(), falsity()), made(api.CAnd, truth(), falsity(), truth()), -1)
	checkCompare(t, and(pred("b", x), truth()), and(pred("a", x, x), falsity()), 1)
	checkCompare(t, and(not(pred("b")), pred("a")), and(not(pred("a")), pred("b")), 1)
	checkCompare(t, falsity(), truth(), 1)
	checkCompare(t, pred("z"), eq(x, x), -1)
	checkCompare(t, le(x, x), eq(y, y), 1)
	checkCompare(t, eq(x, num(1)), eq(x, y), 1)
	checkCompare(t, eq(x, app("f", x)), eq(x, app("f", x, x)), -1)
}

func TestCompareOfDeepAndLargeClaims(t *testing.T) {
	for _, n := range []int{63, 64, 1000, 1 << 16} {
		checkCompare(t, nots(n, pred("a")), nots(n, pred("a")), 0)
		checkCompare(t, nots(n, pred("a")), nots(n, pred("b")), -1)
		checkCompare(t, nots(n, pred("a")), nots(n+1, pred("a")), -1)
		checkCompare(t, sample.Nested(n, pred("a"), wraps()[7]), sample.Nested(n, pred("a"), func(c api.Claim) api.Claim { return forAll("y", "A", c) }), 0)
	}
	for _, n := range []int{4096, 4097, 20000} {
		l := xs(n)
		l[n-1] = v("y")
		checkCompare(t, sized(n), sized(n), 0)
		checkCompare(t, heavy(n), heavy(n), 0)
		checkCompare(t, pred("p", xs(n)...), pred("p", l...), -1)
		checkCompare(t, pred("p", xs(n+1)...), pred("p", l...), 1)
		checkCompare(t, made(api.COr, sized(n), truth()), made(api.COr, sized(n), falsity()), -1)
	}
}

// All calls of 8.1 and 8.2 answer as the chapter says, word by word, for all pairs of small claims.
func TestChecksFollowTheChapter(t *testing.T) {
	errors, orders := map[api.Errno]int{}, map[int]int{}
	claims := someClaims()
	for _, a := range claims {
		errors[wantRight(a)]++
		checkRight(t, a, wantRight(a))
		checkCompare(t, a, twin(a), 0)
		for _, wrap := range wraps() {
			checkRight(t, wrap(a), wantRight(a))
		}
		for _, b := range claims {
			orders[wantCompare(a, b)]++
			checkCompare(t, a, b, wantCompare(a, b))
		}
	}
	if errors[api.OK] < 100 || errors[api.ErrForm] < 50 || errors[api.ErrArity] < 50 || orders[0] <= len(claims) || orders[1] != orders[-1] {
		t.Error("too few claims of a kind:", errors, orders)
	}
}

// Promise 8.3.

func TestNames(t *testing.T) {
	x, y := v("x"), v("y")
	checkNames(t, nil)
	checkNames(t, nil, truth())
	checkNames(t, nil, pred("x"), forAll("x", "A", pred("p", bound(0), app("x"), num(1))), api.Claim{}, api.Claim{Op: 13, Name: "x", Sort: "x"})
	checkNames(t, []string{"x"}, pred("p", x))
	checkNames(t, []string{"x"}, eq(x, x), eq(x, x))
	checkNames(t, []string{"x", "y"}, eq(y, x), le(x, y))
	checkNames(t, []string{"w", "x", "y", "z"}, and(pred("a", v("z"), app("f", y)), not(forAll("u", "A", iff(truth(), eq(x, v("z")))))), le(num(1), app("g", v("w"), app("h", y))))
	checkNames(t, []string{"x", "y"}, withTerms(and(pred("p", y), truth()), x, y), withTerms(truth(), x))
	checkNames(t, []string{"", "A", "B", "Z", "_", "a", "a'", "aa", "b", "ä", "\xff"}, pred("p", v("\xff"), v("b"), v("aa")), or(eq(v("a'"), v("a")), eq(v("_"), v("Z"))), eq(v("B"), v("A")), eq(v(""), v("ä")), eq(v(""), v("a")))
	checkNames(t, []string{"x"}, nots(1<<16, eq(x, x)))
	checkNames(t, []string{"x"}, pred("p", chain(1<<16, x)), heavy(100000))
	var many []api.Claim
	var want []string
	for i := range 1000 {
		name := strconv.Itoa(1000 + i*7%1000)
		many = append(many, pred(name, v(name), app("f", v("1000"))), eq(v(name), num(1)))
		want = append(want, strconv.Itoa(1000+i))
	}
	checkNames(t, want, many...)
	checkNames(t, want, made(api.CAnd, many...), and(truth(), made(api.COr, many...)))
}

func TestTerms(t *testing.T) {
	x, y, f := v("x"), v("y"), app("f", v("x"))
	checkTerms(t, truth())
	checkTerms(t, forAll("x", "A", pred("p")))
	checkTerms(t, pred("p", x), x)
	checkTerms(t, eq(x, x), x)
	checkTerms(t, eq(f, x), f, x)
	checkTerms(t, le(x, f), x, f)
	checkTerms(t, pred("p", f), f)
	checkTerms(t, pred("p", y, x, y, f, x), y, x, f)
	checkTerms(t, and(eq(y, x), or(eq(x, f), eq(f, y))), y, x, f)
	checkTerms(t, and(not(pred("p", x)), pred("p", x)), x)
	checkTerms(t, imp(forAll("x", "A", eq(bound(0), bound(1))), exists("x", "A", eq(bound(1), bound(0)))), bound(0), bound(1))
	checkTerms(t, withTerms(and(pred("p", y, f), pred("p", x)), x, num(1)), x, num(1), y, f)
	checkTerms(t, pred("p", app("c"), api.Term{Op: api.TApp, Name: "c", Args: []api.Term{}}), app("c"))
	checkTerms(t, eq(api.Term{}, api.Term{Op: 9}), api.Term{}, api.Term{Op: 9})
	checkTerms(t, eq(app("x"), x), app("x"), x)
	checkTerms(t, nots(1<<16, eq(y, x)), y, x)
	checkTerms(t, pred("p", chain(1<<16, x)), chain(1<<16, x))
	var distinct []api.Term
	for i := range 20000 {
		distinct = append(distinct, num(int64(i*7919%20000)))
	}
	checkTerms(t, and(pred("p", distinct...), pred("q", distinct...)), distinct...)
}

// Promise 8.4.

func TestNot(t *testing.T) {
	checkNot(t, truth(), made(api.CNot, truth()))
	checkNot(t, not(pred("a")), nots(2, pred("a")))
	checkNot(t, api.Claim{}, made(api.CNot, api.Claim{}))
	for _, c := range someClaims() {
		checkNot(t, c, not(c))
	}
	checkNot(t, nots(1<<16-1, truth()), nots(1<<16, truth()))
}

func TestAndAndOr(t *testing.T) {
	a, b, c, d := pred("a", v("x")), exists("u", "A", eq(bound(0), v("y"))), api.Claim{}, and(pred("b"), pred("c"))
	checkAnd(t, nil, truth())
	checkOr(t, nil, falsity())
	checkAnd(t, []api.Claim{}, truth())
	checkOr(t, []api.Claim{}, falsity())
	for _, one := range someClaims() {
		checkAnd(t, []api.Claim{one}, one)
		checkOr(t, []api.Claim{one}, one)
		checkAnd(t, []api.Claim{one, a}, and(one, a))
		checkOr(t, []api.Claim{a, one}, or(a, one))
		checkAnd(t, []api.Claim{one, one, a}, and(one, and(one, a)))
		checkOr(t, []api.Claim{a, b, one}, or(a, or(b, one)))
	}
	checkAnd(t, []api.Claim{a, b, c, d}, and(a, and(b, and(c, d))))
	checkOr(t, []api.Claim{a, b, c, d}, or(a, or(b, or(c, d))))
	checkAnd(t, []api.Claim{d, d, a}, and(d, and(d, a)))
	checkAnd(t, []api.Claim{truth(), falsity()}, and(truth(), falsity()))
	checkOr(t, []api.Claim{truth(), falsity()}, or(truth(), falsity()))
	many := slices.Repeat([]api.Claim{a}, 1<<15)
	checkAnd(t, many, sample.Nested(len(many)-1, a, func(c api.Claim) api.Claim { return and(a, c) }))
	checkOr(t, many, sample.Nested(len(many)-1, a, func(c api.Claim) api.Claim { return or(a, c) }))
}

func TestFlat(t *testing.T) {
	a, b, c, d := pred("a"), pred("b"), forAll("u", "A", pred("c", bound(0))), not(pred("d"))
	checkFlat(t, a, api.CAnd, a)
	checkFlat(t, and(a, and(b, c)), api.CAnd, a, b, c)
	checkFlat(t, and(a, and(b, c)), api.COr, and(a, and(b, c)))
	checkFlat(t, and(and(a, b), c), api.CAnd, a, b, c)
	checkFlat(t, and(and(a, b), and(c, d)), api.CAnd, a, b, c, d)
	checkFlat(t, and(a, and(and(b, and(c, d)), a)), api.CAnd, a, b, c, d, a)
	checkFlat(t, or(or(a, b), or(c, d)), api.COr, a, b, c, d)
	checkFlat(t, or(a, or(b, c)), api.CAnd, or(a, or(b, c)))
	checkFlat(t, and(or(a, b), and(or(c, and(a, b)), d)), api.CAnd, or(a, b), or(c, and(a, b)), d)
	checkFlat(t, or(and(a, b), or(and(c, or(a, b)), d)), api.COr, and(a, b), and(c, or(a, b)), d)
	checkFlat(t, not(and(a, b)), api.CAnd, not(and(a, b)))
	checkFlat(t, and(not(and(a, b)), forAll("x", "A", and(a, b))), api.CAnd, not(and(a, b)), forAll("x", "A", and(a, b)))
	checkFlat(t, and(truth(), falsity()), api.CAnd, truth(), falsity())
	checkFlat(t, and(a, a), api.CAnd, a, a)
	checkFlat(t, made(api.CAnd), api.CAnd)
	checkFlat(t, made(api.COr), api.CAnd, made(api.COr))
	checkFlat(t, made(api.COr, a, made(api.COr), made(api.COr, b), made(api.COr, c, d, a)), api.COr, a, b, c, d, a)
	checkFlat(t, withTerms(api.Claim{Op: api.CAnd, Name: "x", Sort: "A", Subs: []api.Claim{a, b}}, v("x")), api.CAnd, a, b)
}

func TestFlatByOtherOps(t *testing.T) {
	a, b := pred("a"), pred("b")
	for _, op := range []int{0, 1, 2, 3, 4, 5, 6, 9, 10, 11, 12, 13, -7, -8, 256 + 7, math.MaxInt, math.MinInt} {
		for _, c := range []api.Claim{made(op, a, b), made(op, made(op, a, b), made(op, a, b)), made(op), and(a, b), or(a, b), made(op, and(a, b), or(a, b))} {
			checkFlat(t, c, op, c)
		}
	}
	for _, op := range []int{api.CImp, api.CIff, api.CNot, api.CAll, 0, 13} {
		checkFlat(t, made(op, and(a, b), or(a, b)), api.CAnd, made(op, and(a, b), or(a, b)))
		checkFlat(t, made(op, and(a, b), or(a, b)), api.COr, made(op, and(a, b), or(a, b)))
	}
}

func TestFlatOfLargeClaims(t *testing.T) {
	var l []api.Claim
	for i := range 1 << 15 {
		l = append(l, pred("p"+strconv.Itoa(i)))
	}
	right, left := l[len(l)-1], l[0]
	for i := len(l) - 2; i >= 0; i-- {
		right = and(l[i], right)
	}
	for _, c := range l[1:] {
		left = or(left, c)
	}
	checkFlat(t, right, api.CAnd, l...)
	checkFlat(t, left, api.COr, l...)
	checkFlat(t, right, api.COr, right)
	checkFlat(t, made(api.CAnd, l...), api.CAnd, l...)
}

// Promise 8.5.

func TestAtoms(t *testing.T) {
	a, b, c := pred("a", v("x")), eq(v("x"), v("y")), le(v("x"), num(3))
	checkAtoms(t, nil)
	checkAtoms(t, []api.Claim{})
	checkAtoms(t, []api.Claim{truth()})
	checkAtoms(t, []api.Claim{truth(), falsity(), not(truth()), and(truth(), or(falsity(), truth()))})
	checkAtoms(t, []api.Claim{a}, a)
	checkAtoms(t, []api.Claim{or(not(a), a)}, a)
	checkAtoms(t, []api.Claim{b, a, b, c, a}, b, a, c)
	checkAtoms(t, []api.Claim{imp(and(c, a), iff(b, not(a)))}, c, a, b)
	checkAtoms(t, []api.Claim{not(b), or(a, falsity()), imp(c, b)}, b, a, c)
	checkAtoms(t, []api.Claim{and(pred("a"), and(pred("a", v("y")), pred("b")))}, pred("a"), pred("a", v("y")), pred("b"))
	checkAtoms(t, []api.Claim{{}, made(13, a), made(-1)}, api.Claim{}, made(13, a), made(-1))
	checkAtoms(t, []api.Claim{withSubs(truth(), a), withTerms(falsity(), v("x")), withSubs(a, b)}, withSubs(a, b))
	checkAtoms(t, []api.Claim{made(api.CNot), made(api.CAnd, a, b, c), made(api.COr)}, a, b, c)
	checkAtoms(t, []api.Claim{made(api.CImp, c, made(api.CIff, b), a)}, c, b, a)
	checkAtoms(t, []api.Claim{nots(1<<16, a)}, a)
}

// A quantified claim is an atom, whatever it says; the names of its binders make no other one of it.
func TestQuantifiedAtoms(t *testing.T) {
	a := pred("a")
	u, w := forAll("u", "A", and(a, pred("p", bound(0)))), forAll("w", "A", and(a, pred("p", bound(0))))
	checkAtoms(t, []api.Claim{u}, u)
	checkAtoms(t, []api.Claim{u, w}, u)
	checkAtoms(t, []api.Claim{w, u}, w)
	checkAtoms(t, []api.Claim{and(a, not(u)), imp(w, a)}, a, u)
	checkAtoms(t, []api.Claim{u, a}, u, a)
	checkAtoms(t, []api.Claim{forAll("u", "A", truth()), forAll("u", "B", truth()), exists("u", "A", truth()), exists("w", "A", truth()), forAll("w", "B", truth())}, forAll("u", "A", truth()), forAll("u", "B", truth()), exists("u", "A", truth()))
	deep, other := exists("u", "A", forAll("w", "A", u)), exists("w", "A", forAll("u", "A", w))
	checkAtoms(t, []api.Claim{or(deep, other)}, deep)
	checkAtoms(t, []api.Claim{{Op: api.CAll}, {Op: api.CEx, Name: "x"}, {Op: api.CAll, Name: "x"}}, api.Claim{Op: api.CAll}, api.Claim{Op: api.CEx, Name: "x"})
}

func TestManyAtoms(t *testing.T) {
	var distinct []api.Claim
	for i := range 10000 {
		distinct = append(distinct, pred("p", num(int64(i*7919%10000))), forAll("x", "A", eq(bound(0), num(int64(i*7919%10000)))))
	}
	whole := made(api.CAnd, slices.Concat(distinct, distinct)...)
	checkAtoms(t, []api.Claim{whole, not(whole)}, distinct...)
	checkAtoms(t, slices.Concat(distinct, []api.Claim{whole}), distinct...)
}

func TestCopy(t *testing.T) {
	for _, c := range someClaims() {
		checkCopy(t, c)
		for _, wrap := range wraps() {
			checkCopy(t, wrap(c))
		}
	}
	for _, n := range []int{4096, 4097, 20000} {
		checkCopy(t, sized(n))
		checkCopy(t, heavy(n))
		checkCopy(t, pred("p", xs(n)...))
	}
	checkCopy(t, nots(1<<16, pred("p", chain(1<<16, v("x")))))
	for _, name := range someNames() {
		c := forAll(name, "A", not(exists(name, name, pred(name, v(name)))))
		if got := Copy(c); got.Name != name || got.Subs[0].Subs[0].Name != name || got.Subs[0].Subs[0].Sort != name {
			t.Errorf("%q became %s", name, text(got))
		}
	}
}

// Whatever becomes of an argument, the answers stay as they were.
func TestAnswersShareNoMemory(t *testing.T) {
	whole := and(pred("p", app("f", v("x")), v("y")), and(not(eq(v("x"), v("y"))), forAll("u", "A", pred("p", bound(0), app("f", v("x"))))))
	c := twin(whole)
	l := []api.Claim{c, c}
	copied, denied, both, either, flat, atoms, terms := Copy(c), Not(c), And(l...), Or(l...), Flat(c, api.CAnd), Atoms(l...), Terms(c)
	alone, one := Flat(c, api.COr), And(c)
	spoil(c)
	l[0], l[1] = truth(), truth()
	want := []api.Claim{whole, not(whole), and(whole, whole), or(whole, whole), whole, whole}
	for i, got := range []api.Claim{copied, denied, both, either, alone[0], one} {
		if !equal(got, want[i]) {
			t.Errorf("a changed argument changed the answer %d: %s", i, text(got))
		}
	}
	if !slices.EqualFunc(flat, wantFlat(whole, 7), equal) || !slices.EqualFunc(atoms, wantAtoms([]api.Claim{whole}), equal) || !slices.EqualFunc(terms, wantTerms(whole), term.Same) {
		t.Errorf("a changed argument changed %s; %s; %s", texts(flat), texts(atoms), termTexts(terms))
	}
}

// Whatever becomes of an answer, the arguments and the rest of the answer stay as they were.
func TestChangedAnswers(t *testing.T) {
	whole := and(pred("p", app("f", v("x")), v("y")), not(pred("p", app("f", app("f", v("x"))), v("y"))))
	c := twin(whole)
	l := []api.Claim{c, twin(whole)}
	for _, answer := range []api.Claim{Copy(c), Not(c), And(l...), Or(l...), And(c), Or(c), Flat(c, api.COr)[0], Flat(c, api.CAnd)[0], Atoms(c)[0]} {
		spoil(answer)
		if !equal(c, whole) || !equal(l[0], whole) || !equal(l[1], whole) {
			t.Fatalf("a changed answer changed %s", texts(l))
		}
	}
	terms := Terms(c)
	spoilTerm(terms[0])
	if want := wantTerms(whole); !equal(c, whole) || !slices.EqualFunc(terms[1:], want[1:], term.Same) {
		t.Errorf("a changed answer changed %s or %s", text(c), termTexts(terms))
	}
}

// Nothing is written behind the lists of an argument.
func TestRoomBehindLists(t *testing.T) {
	terms := []api.Term{v("x"), app("f", v("x")), v("free"), v("free")}
	claims := []api.Claim{pred("a"), {Op: api.CEq, Terms: terms[:2]}, pred("free"), pred("free")}
	c := api.Claim{Op: api.CAnd, Subs: claims[:2]}
	Right(c)
	Names(claims[:2]...)
	answers := slices.Concat([]api.Claim{Copy(c), Not(c), And(claims[:2]...), Or(claims[:2]...)}, Flat(c, api.CAnd), Atoms(claims[:2]...))
	for _, a := range answers {
		_ = append(a.Subs, pred("spoilt"))
		_ = append(a.Terms, v("spoilt"))
	}
	_ = append(Terms(c), v("spoilt"))
	if !equal(claims[2], pred("free")) || !equal(claims[3], pred("free")) || !term.Same(terms[2], v("free")) || !term.Same(terms[3], v("free")) || !equal(c, and(pred("a"), eq(v("x"), app("f", v("x"))))) {
		t.Error(texts(claims), termTexts(terms))
	}
}

// All calls of 8.3 to 8.5 answer as the chapter says, word by word, for small claims.
func TestCallsFollowTheChapter(t *testing.T) {
	claims := someClaims()
	for i, a := range claims {
		checkTerms(t, a, wantTerms(a)...)
		checkNames(t, wantNames([]api.Claim{a}), a)
		checkAtoms(t, []api.Claim{a}, wantAtoms([]api.Claim{a})...)
		for op := -1; op <= 14; op++ {
			checkFlat(t, a, op, wantFlat(a, op)...)
		}
		for j := i % 5; j < len(claims); j += 5 {
			b, c := claims[j], claims[(i+j*31+7)%len(claims)]
			l := []api.Claim{a, b, c}
			checkNames(t, wantNames(l), l...)
			checkAtoms(t, l, wantAtoms(l)...)
			checkTerms(t, and(a, imp(b, c)), wantTerms(and(a, imp(b, c)))...)
			checkFlat(t, and(or(a, b), and(b, c)), api.CAnd, wantFlat(and(or(a, b), and(b, c)), api.CAnd)...)
			checkFlat(t, or(or(a, b), and(b, c)), api.COr, wantFlat(or(or(a, b), and(b, c)), api.COr)...)
		}
	}
}

// Promise 8.6.

func TestSameIsAnEquivalenceAndCompareATotalOrder(t *testing.T) {
	claims := someClaims()
	orders := make([][]int, len(claims))
	for i, a := range claims {
		for _, b := range claims {
			orders[i] = append(orders[i], Compare(a, b))
		}
	}
	for i, a := range claims {
		for j, b := range claims {
			if orders[i][j] != -orders[j][i] || (orders[i][j] == 0) != wantSame(a, b) || Same(a, b) != wantSame(a, b) {
				t.Errorf("%s and %s: %d and %d", text(a), text(b), orders[i][j], orders[j][i])
			}
			for k, c := range claims {
				if orders[i][j] <= 0 && orders[j][k] <= 0 && orders[i][k] != min(orders[i][j], orders[j][k]) {
					t.Errorf("%s, %s and %s are not in order", text(a), text(b), text(c))
				}
			}
		}
	}
}

func TestFlatInvertsAndAndOr(t *testing.T) {
	claims := someClaims()
	inverted := map[int]int{}
	for i, a := range claims {
		for j, b := range claims {
			c := claims[(i*13+j*31+7)%len(claims)]
			for _, l := range [][]api.Claim{{a}, {a, b}, {b, a, c}, {a, b, a, c}} {
				for op, join := range map[int]func(...api.Claim) api.Claim{api.CAnd: And, api.COr: Or} {
					if slices.ContainsFunc(l, func(x api.Claim) bool { return x.Op == op }) {
						continue
					}
					inverted[op]++
					if got := Flat(join(l...), op); !slices.EqualFunc(got, l, equal) {
						t.Errorf("Flat by %d gives %s of the joined %s", op, texts(got), texts(l))
					}
				}
			}
		}
	}
	if inverted[api.CAnd] < 10000 || inverted[api.COr] < 10000 {
		t.Error(inverted)
	}
}
