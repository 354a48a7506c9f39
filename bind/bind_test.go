package bind

import (
	"math"
	"math/big"
	"slices"
	"strconv"
	"testing"

	"sequitur/api"
	"sequitur/claim"
	"sequitur/sample"
	"sequitur/term"
)

// Short names for what the tests are full of.
var (
	v, num, app, b      = sample.Var, sample.Num, sample.App, sample.Bound
	add, sub, neg, mul  = sample.Add, sample.Sub, sample.Neg, sample.Mul
	p, eq, le, made     = sample.Pred, sample.Eq, sample.Le, sample.Made
	not, and, or, imp   = sample.Not, sample.And, sample.Or, sample.Imp
	forAll, exists      = sample.All, sample.Ex
	withArgs, withTerms = sample.WithArgs, sample.WithTerms
	text, termText      = sample.ClaimText, sample.TermText
	equal, equalTerms   = sample.EqualClaims, sample.EqualTerms
	within, hulls       = sample.Within, sample.Hulls
)

const (
	least    = math.MinInt64
	greatest = math.MaxInt64
)

// What the chapter says, word by word, with nothing of the package in it.

// wrapped is the sum of l, wrapped around to 64 bits.
func wrapped(l ...int64) int64 {
	sum := new(big.Int)
	for _, n := range l {
		sum.Add(sum, big.NewInt(n))
	}
	modulus := new(big.Int).Lsh(big.NewInt(1), 64)
	sum.Mod(sum, modulus)
	if sum.BitLen() == 64 {
		sum.Sub(sum, modulus)
	}
	return sum.Int64()
}

// number is the loose number of a part within k binders.
func number(t api.Term, k int64) (int64, bool) {
	if t.Op == 2 && t.Num >= k {
		return t.Num - k, true
	}
	return 0, false
}

// part is a part of the terms of a claim, and how many binders lie around it.
type part struct {
	term    api.Term
	binders int64
}

func partsOf(t api.Term, k int64) []part {
	l := []part{{t, k}}
	for _, a := range t.Args {
		l = append(l, partsOf(a, k)...)
	}
	return l
}

func parts(c api.Claim, k int64) []part {
	var l []part
	for _, t := range c.Terms {
		l = append(l, partsOf(t, k)...)
	}
	if c.Op == 11 || c.Op == 12 {
		k++
	}
	for _, s := range c.Subs {
		l = append(l, parts(s, k)...)
	}
	return l
}

func wantNumbers(l []part) []int {
	found := []int{}
	for _, p := range l {
		if n, ok := number(p.term, p.binders); ok && !slices.Contains(found, int(n)) {
			found = append(found, int(n))
		}
	}
	slices.Sort(found)
	return found
}

func wantLoose(c api.Claim) []int { return wantNumbers(parts(c, 0)) }

func wantLooseTerm(t api.Term) []int { return wantNumbers(partsOf(t, 0)) }

// with is c, within k binders, with what f makes of its terms.
func with(c api.Claim, k int64, f func(t api.Term, k int64) api.Term) api.Claim {
	r := api.Claim{Op: c.Op, Name: c.Name, Sort: c.Sort}
	for _, t := range c.Terms {
		r.Terms = append(r.Terms, f(t, k))
	}
	if c.Op == 11 || c.Op == 12 {
		k++
	}
	for _, s := range c.Subs {
		r.Subs = append(r.Subs, with(s, k, f))
	}
	return r
}

// numbered is t with another Num, and with what f makes of its Args.
func numbered(t api.Term, n int64, f func(t api.Term) api.Term) api.Term {
	r := api.Term{Op: t.Op, Name: t.Name, Num: n}
	for _, a := range t.Args {
		r.Args = append(r.Args, f(a))
	}
	return r
}

func liftWithin(t api.Term, k, by, from int64) api.Term {
	again := func(a api.Term) api.Term { return liftWithin(a, k, by, from) }
	n, ok := number(t, k)
	if !ok || n < from {
		return numbered(t, t.Num, again)
	}
	return numbered(t, wrapped(max(wrapped(n, by), 0), k), again)
}

func wantLift(t api.Term, by int) api.Term { return liftWithin(t, 0, int64(by), 0) }

func wantLiftClaim(c api.Claim, by, from int) api.Claim {
	return with(c, 0, func(t api.Term, k int64) api.Term { return liftWithin(t, k, int64(by), int64(from)) })
}

func openWithin(t api.Term, k int64, to api.Term) api.Term {
	again := func(a api.Term) api.Term { return openWithin(a, k, to) }
	n, ok := number(t, k)
	switch {
	case !ok:
		return numbered(t, t.Num, again)
	case n > 0:
		return numbered(t, wrapped(n, -1, k), again)
	}
	return wantLift(to, int(k))
}

func wantOpen(body api.Claim, to api.Term) api.Claim {
	return with(body, 0, func(t api.Term, k int64) api.Term { return openWithin(t, k, to) })
}

func closeWithin(t api.Term, k int64, name string) api.Term {
	again := func(a api.Term) api.Term { return closeWithin(a, k, name) }
	if t.Op == 1 && t.Name == name {
		return api.Term{Op: 2, Num: k}
	}
	if n, ok := number(t, k); ok {
		return numbered(t, wrapped(n, 1, k), again)
	}
	return numbered(t, t.Num, again)
}

func wantClose(c api.Claim, name string) api.Claim {
	return with(c, 0, func(t api.Term, k int64) api.Term { return closeWithin(t, k, name) })
}

// unchanged calls f and holds the claims against what they were ahead of the call.
func unchanged(t *testing.T, f func(), l ...api.Claim) {
	t.Helper()
	if s := sample.Changed(f, l...); s != "" {
		t.Error(s)
	}
}

// one is a claim that holds the terms, for what takes claims.
func one(l ...api.Term) api.Claim { return api.Claim{Terms: l} }

func checkLoose(t *testing.T, c api.Claim, want ...int) {
	t.Helper()
	unchanged(t, func() {
		t.Helper()
		if got := Loose(c); !slices.Equal(got, want) {
			t.Errorf("Loose(%s) are %v; want %v", text(c), got, want)
		}
		if got := Closed(c); got != (len(want) == 0) {
			t.Errorf("Closed(%s) is %v", text(c), got)
		}
	}, c)
}

func checkLooseTerm(t *testing.T, x api.Term, want ...int) {
	t.Helper()
	unchanged(t, func() {
		t.Helper()
		if got := LooseTerm(x); !slices.Equal(got, want) {
			t.Errorf("LooseTerm(%s) are %v; want %v", termText(x), got, want)
		}
	}, one(x))
}

// checkClaim holds what a call makes of the arguments against want.
func checkClaim(t *testing.T, call string, make func() api.Claim, want api.Claim, arguments ...api.Claim) {
	t.Helper()
	unchanged(t, func() {
		t.Helper()
		got := make()
		if !equal(got, want) {
			t.Errorf("%s of %s gives %s; want %s", call, sample.ClaimTexts(arguments), text(got), text(want))
		}
		if sample.Shares(got, arguments...) {
			t.Errorf("%s of %s shares memory: %s", call, sample.ClaimTexts(arguments), text(got))
		}
	}, arguments...)
}

func checkLift(t *testing.T, x api.Term, by int, want api.Term) {
	t.Helper()
	checkClaim(t, "Lift by "+strconv.Itoa(by), func() api.Claim { return one(Lift(x, by)) }, one(want), one(x))
}

func checkLiftClaim(t *testing.T, c api.Claim, by, from int, want api.Claim) {
	t.Helper()
	checkClaim(t, "LiftClaim by "+strconv.Itoa(by)+" from "+strconv.Itoa(from), func() api.Claim { return LiftClaim(c, by, from) }, want, c)
}

func checkOpen(t *testing.T, body api.Claim, x api.Term, want api.Claim) {
	t.Helper()
	checkClaim(t, "Open", func() api.Claim { return Open(body, x) }, want, body, one(x))
}

// checkClose holds Close, and All and Ex with it, against want.
func checkClose(t *testing.T, c api.Claim, name string, want api.Claim) {
	t.Helper()
	call := " by " + strconv.Quote(name[:min(len(name), 40)])
	checkClaim(t, "Close"+call, func() api.Claim { return Close(c, name) }, want, c)
	for _, s := range []string{"A", ""} {
		checkClaim(t, "All"+call, func() api.Claim { return All(name, s, c) }, api.Claim{Op: 11, Name: name, Sort: s, Subs: []api.Claim{want}}, c)
		checkClaim(t, "Ex"+call, func() api.Claim { return Ex(name, s, c) }, api.Claim{Op: 12, Name: name, Sort: s, Subs: []api.Claim{want}}, c)
	}
}

// others are the Ops of claims that are no binders.
func others() []int {
	return []int{least, -12, -11, -1, 0, 1, 2, 3, 4, 5, 6, 7, 8, 9, 10, 13, 14, 256 + 11, 1<<32 + 12, greatest}
}

// Promise 9.1.

func TestLooseTerm(t *testing.T) {
	checkLooseTerm(t, api.Term{})
	checkLooseTerm(t, v("x"))
	checkLooseTerm(t, b(0), 0)
	checkLooseTerm(t, b(7), 7)
	checkLooseTerm(t, b(greatest), greatest)
	for _, n := range []int64{-1, -2, -1 << 32, least} {
		checkLooseTerm(t, b(n))
		checkLooseTerm(t, withArgs(b(n), b(1)), 1)
	}
	for _, hull := range hulls() {
		checkLooseTerm(t, hull(b(3)), 3)
		checkLooseTerm(t, hull(v("x")))
		checkLooseTerm(t, hull(hull(b(0))), 0)
		checkLooseTerm(t, add(hull(b(3)), hull(b(1))), 1, 3)
		checkLooseTerm(t, withArgs(b(2), hull(b(1))), 1, 2)
	}
	checkLooseTerm(t, app("f", b(2), b(0), b(2), b(1), b(0)), 0, 1, 2)
	checkLooseTerm(t, app("f", b(10), b(9), app("g", b(10), b(2))), 2, 9, 10)
	checkLooseTerm(t, app("f", b(greatest), b(1<<32), b(1<<31), b(0)), 0, 1<<31, 1<<32, greatest)
	checkLooseTerm(t, withArgs(b(1), b(1), withArgs(b(0), b(4))), 0, 1, 4)
	for _, op := range []int{least, -2, -1, 0, 1, 3, 4, 5, 6, 7, 8, 9, 1<<32 + 2, greatest} {
		checkLooseTerm(t, api.Term{Op: op, Num: 3})
		checkLooseTerm(t, api.Term{Op: op, Num: 3, Args: []api.Term{b(4)}}, 4)
	}
}

func TestLoose(t *testing.T) {
	checkLoose(t, api.Claim{})
	checkLoose(t, one(api.Term{}))
	checkLoose(t, within(1, p("p", b(0), b(1))), 0)
	checkLoose(t, and(p("p", b(2), v("x")), forAll("u", "A", p("p", b(0), b(1), b(5)))), 0, 2, 4)
	checkLoose(t, and(p("p", b(7), b(3), b(7)), eq(b(3), b(5))), 3, 5, 7)
	checkLoose(t, and(p("p", b(2)), within(2, eq(b(4), b(3)))), 1, 2)
	checkLoose(t, or(within(1, p("p", b(3))), within(2, p("p", b(3)))), 1, 2)
	checkLoose(t, within(3, p("p", b(0), b(2), b(3), b(9), b(-1))), 0, 6)
	checkLoose(t, within(2, imp(eq(b(0), app("f", b(1))), le(b(1), b(0)))))
	checkLoose(t, within(2, p("p", withArgs(b(1), b(0), withArgs(b(2), b(3))))), 0, 1)
	checkLoose(t, within(1, p("p", b(greatest))), greatest-1)
	for k := range 5 {
		for n := range 9 {
			var want []int
			if n >= k {
				want = []int{n - k}
			}
			for _, x := range append([]api.Term{b(int64(n)), withArgs(b(int64(n)), v("x"))}, app("f", b(int64(n)))) {
				checkLoose(t, within(k, p("p", x)), want...)
				checkLoose(t, within(k, eq(v("x"), neg(x))), want...)
				checkLoose(t, not(within(k, and(p("q"), not(p("p", x))))), want...)
			}
			for _, hull := range hulls() {
				checkLoose(t, within(k, p("p", hull(b(int64(n))))), want...)
			}
		}
		checkLoose(t, within(k, p("p", b(-1), b(least))))
	}
}

// Only the Subs of a binder lie within it, all of them; other claims bind nothing.
func TestWhatLiesWithinABinder(t *testing.T) {
	for _, op := range []int{api.CAll, api.CEx} {
		c := made(op, p("p", b(0), b(1)), p("p", b(3)), not(p("p", b(6))))
		checkLoose(t, c, 0, 2, 5)
		checkLoose(t, withTerms(c, b(0)), 0, 2, 5)
		checkLoose(t, withTerms(c, b(1), app("f", b(8))), 0, 1, 2, 5, 8)
		checkLoose(t, made(op))
		checkLoose(t, withTerms(made(op), b(0)), 0)
		checkLoose(t, made(op, withTerms(made(op, p("p", b(1))), b(1))), 0)
		checkLiftClaim(t, withTerms(c, b(0)), 2, 0, withTerms(made(op, p("p", b(0), b(3)), p("p", b(5)), not(p("p", b(8)))), b(2)))
		checkOpen(t, withTerms(c, b(0), b(1)), b(4), withTerms(made(op, p("p", b(0), b(5)), p("p", b(2)), not(p("p", b(5)))), b(4), b(0)))
		checkClose(t, withTerms(made(op, p("p", v("x"), b(1)), p("p", v("x"))), v("x"), b(0)), "x", withTerms(made(op, p("p", b(1), b(2)), p("p", b(1))), b(0), b(1)))
	}
	for _, op := range others() {
		checkLoose(t, withTerms(made(op, p("p", b(0), b(1)), p("p", b(3))), b(2)), 0, 1, 2, 3)
		checkLoose(t, within(1, withTerms(made(op, p("p", b(0), b(1)), p("p", b(3))), b(2))), 0, 1, 2)
		checkOpen(t, made(op, p("p", b(0), b(1))), b(4), made(op, p("p", b(4), b(0))))
		checkClose(t, made(op, p("p", v("x"), b(1))), "x", made(op, p("p", b(0), b(2))))
	}
}

func TestClosed(t *testing.T) {
	for _, c := range []api.Claim{{}, sample.True(), p("p"), p("p", v("x"), num(0)), within(1, p("p", b(0))), within(3, p("p", b(2), b(0))), p("p", b(-1)), {Op: 13}, made(api.CAll)} {
		if !Closed(c) {
			t.Error(text(c))
		}
	}
	for _, c := range []api.Claim{p("p", b(0)), p("p", b(greatest)), within(1, p("p", b(1))), within(3, p("p", b(0), app("f", b(3)))), and(sample.True(), not(eq(v("x"), b(0)))), withTerms(made(api.CEx), b(0)), p("p", withArgs(v("x"), b(0)))} {
		if Closed(c) {
			t.Error(text(c))
		}
	}
}

func TestLiftClaim(t *testing.T) {
	c := and(p("p", b(2), v("x")), forAll("u", "A", p("p", b(0), b(1), b(5))))
	checkLiftClaim(t, c, 3, 2, and(p("p", b(5), v("x")), forAll("u", "A", p("p", b(0), b(1), b(8)))))
	checkLiftClaim(t, c, 3, 0, and(p("p", b(5), v("x")), forAll("u", "A", p("p", b(0), b(4), b(8)))))
	checkLiftClaim(t, c, 1, 3, and(p("p", b(2), v("x")), forAll("u", "A", p("p", b(0), b(1), b(6)))))
	checkLiftClaim(t, c, -2, 0, and(p("p", b(0), v("x")), forAll("u", "A", p("p", b(0), b(1), b(3)))))
	checkLiftClaim(t, c, -3, 0, and(p("p", b(0), v("x")), forAll("u", "A", p("p", b(0), b(1), b(2)))))
	checkLiftClaim(t, c, -9, 0, and(p("p", b(0), v("x")), forAll("u", "A", p("p", b(0), b(1), b(1)))))
	for _, from := range []int{least, -1, 0, 1, 2, 3, 4, 5, greatest} {
		checkLiftClaim(t, c, 0, from, c)
		checkLiftClaim(t, api.Claim{}, 2, from, api.Claim{})
		checkLiftClaim(t, within(2, p("p", b(0), b(1), b(-1))), 2, from, within(2, p("p", b(0), b(1), b(-1))))
	}
	for _, from := range []int{5, 6, 1 << 40, greatest} {
		checkLiftClaim(t, c, 9, from, c)
		checkLiftClaim(t, c, -9, from, c)
	}
	for _, from := range []int{least, -7, -1, 0} {
		checkLiftClaim(t, c, 1, from, and(p("p", b(3), v("x")), forAll("u", "A", p("p", b(0), b(2), b(6)))))
	}
}

func TestLiftClaimByNumbers(t *testing.T) {
	for k := range 4 {
		for n := range 7 {
			for by := -8; by <= 8; by++ {
				for from := -2; from <= 8; from++ {
					want := n
					if n >= k && n-k >= from {
						want = max(n-k+by, 0) + k
					}
					for _, hull := range append(hulls(), func(t api.Term) api.Term { return t }) {
						checkLiftClaim(t, within(k, p("p", hull(b(int64(n))))), by, from, within(k, p("p", hull(b(int64(want))))))
					}
					checkLiftClaim(t, within(k, p("p", withArgs(b(int64(n)), b(int64(n))))), by, from, within(k, p("p", withArgs(b(int64(want)), b(int64(want))))))
				}
			}
		}
	}
}

// A sum that wraps around is below 0, or is as great as any other.
func TestLiftWrapsAround(t *testing.T) {
	checkLift(t, b(greatest), 1, b(0))
	checkLift(t, b(greatest), greatest, b(0))
	checkLift(t, b(1), greatest, b(0))
	checkLift(t, b(0), greatest, b(greatest))
	checkLift(t, b(greatest-1), 1, b(greatest))
	checkLift(t, b(greatest), -greatest, b(0))
	checkLift(t, b(greatest), least, b(0))
	checkLift(t, b(0), least, b(0))
	checkLiftClaim(t, p("p", b(greatest)), 1, 0, p("p", b(0)))
	checkLiftClaim(t, p("p", b(greatest)), 1, greatest, p("p", b(0)))
	checkLiftClaim(t, p("p", b(greatest-1)), 1, greatest, p("p", b(greatest-1)))
	checkLiftClaim(t, within(1, p("p", b(greatest))), 2, 0, within(1, p("p", b(1))))
	checkLiftClaim(t, within(3, p("p", b(greatest))), greatest, 0, within(3, p("p", b(3))))
	checkLiftClaim(t, within(3, p("p", b(greatest))), 3-greatest, 0, within(3, p("p", b(3))))
	checkLiftClaim(t, within(3, p("p", b(greatest))), 4-greatest, 0, within(3, p("p", b(4))))
	checkLiftClaim(t, within(3, p("p", b(greatest))), least, greatest-3, within(3, p("p", b(3))))
	checkLiftClaim(t, within(3, p("p", b(greatest))), least, greatest-2, within(3, p("p", b(greatest))))
	checkLiftClaim(t, within(2, p("p", b(3))), greatest-3, 0, within(2, p("p", b(greatest))))
	// The loose number itself fits: only the Num that stands for it within a binder wraps around.
	checkLiftClaim(t, within(1, p("p", b(greatest))), 1, 0, within(1, p("p", b(least))))
	checkLiftClaim(t, within(2, p("p", b(2))), greatest, 0, within(2, p("p", b(least+1))))
}

func TestLift(t *testing.T) {
	checkLift(t, api.Term{}, 3, api.Term{})
	checkLift(t, app("f", b(7)), -8, app("f", b(0)))
	checkLift(t, app("f", b(7)), -7, app("f", b(0)))
	checkLift(t, app("f", b(7)), -6, app("f", b(1)))
	checkLift(t, app("f", b(7), app("g", b(0), v("x")), num(7)), 2, app("f", b(9), app("g", b(2), v("x")), num(7)))
	checkLift(t, withArgs(b(1), b(2), withArgs(v("x"), b(3))), 1, withArgs(b(2), b(3), withArgs(v("x"), b(4))))
	for _, n := range []int64{-1, -5, least} {
		for _, by := range []int{least, -1, 0, 1, 5, 6, greatest} {
			checkLift(t, b(n), by, b(n))
		}
		checkLift(t, withArgs(b(n), b(1)), 3, withArgs(b(n), b(4)))
	}
	for _, hull := range hulls() {
		for by := -5; by <= 5; by++ {
			for n := range 5 {
				checkLift(t, hull(b(int64(n))), by, hull(b(int64(max(n+by, 0)))))
				checkLift(t, hull(hull(withArgs(b(int64(n)), b(2)))), by, hull(hull(withArgs(b(int64(max(n+by, 0))), b(int64(max(2+by, 0)))))))
			}
		}
	}
}

// Promise 9.2.

func TestOpen(t *testing.T) {
	c, f := app("c"), app("f", b(7))
	checkOpen(t, api.Claim{}, c, api.Claim{})
	checkOpen(t, p("p", b(0), v("y")), c, p("p", c, v("y")))
	checkOpen(t, p("p", v("y"), num(0)), c, p("p", v("y"), num(0)))
	checkOpen(t, and(p("p", b(2), v("x")), forAll("u", "A", p("p", b(0), b(1), b(5)))), f, and(p("p", b(1), v("x")), forAll("u", "A", p("p", b(0), app("f", b(8)), b(4)))))
	checkOpen(t, eq(b(0), b(0)), app("g", b(0), b(1)), eq(app("g", b(0), b(1)), app("g", b(0), b(1))))
	checkOpen(t, p("p", b(0)), b(0), p("p", b(0)))
	checkOpen(t, p("p", b(0)), api.Term{}, p("p", api.Term{}))
	checkOpen(t, p("p", b(0), b(1), b(2), b(3)), v("x"), p("p", v("x"), b(0), b(1), b(2)))
	checkOpen(t, p("p", b(-1), b(least), b(greatest)), v("x"), p("p", b(-1), b(least), b(greatest-1)))
	for k := range 5 {
		for n := range 9 {
			for _, x := range []api.Term{c, v("x"), num(3), {}} {
				want := b(int64(n))
				if n == k {
					want = x
				}
				if n > k {
					want = b(int64(n - 1))
				}
				for _, hull := range hulls() {
					checkOpen(t, within(k, p("p", hull(b(int64(n))))), x, within(k, p("p", hull(want))))
				}
				checkOpen(t, within(k, eq(b(int64(n)), b(int64(n)))), x, within(k, eq(want, want)))
			}
			if n == k {
				checkOpen(t, within(k, p("p", b(int64(n)))), app("f", b(0), b(5), b(-1)), within(k, p("p", app("f", b(int64(k)), b(int64(5+k)), b(-1)))))
			}
		}
	}
}

// What a term says that is put in counts from where the body stands, within whatever binder it is put; its Args and those of the part that it replaces do not mix.
func TestOpenByTermsWithLooseNumbers(t *testing.T) {
	x := withArgs(b(1), b(0), app("f", b(3)))
	lifted := func(k int64) api.Term { return withArgs(b(1+k), b(k), app("f", b(3+k))) }
	for k := range 5 {
		n := int64(k)
		checkOpen(t, within(k, p("p", b(n))), x, within(k, p("p", lifted(n))))
		checkOpen(t, within(k, p("p", withArgs(b(n), b(n), b(n+1), v("y")))), x, within(k, p("p", lifted(n))))
		checkOpen(t, within(k, p("p", withArgs(b(n)), withArgs(b(n), v("x")))), v("y"), within(k, p("p", v("y"), v("y"))))
		checkOpen(t, within(k, p("p", withArgs(b(n+2), b(n), b(n+1), v("y")))), x, within(k, p("p", withArgs(b(n+1), lifted(n), b(n), v("y")))))
		checkOpen(t, within(k, p("p", withArgs(b(n-1), b(n), b(n+1)))), x, within(k, p("p", withArgs(b(n-1), lifted(n), b(n)))))
	}
	checkOpen(t, and(p("p", b(0)), forAll("u", "A", or(p("p", b(0), b(1)), exists("w", "A", p("p", b(0), b(1), b(2)))))), x,
		and(p("p", lifted(0)), forAll("u", "A", or(p("p", b(0), lifted(1)), exists("w", "A", p("p", b(0), b(1), lifted(2)))))))
	checkOpen(t, p("p", b(0)), b(greatest), p("p", b(greatest)))
	checkOpen(t, within(1, p("p", b(1))), b(greatest), within(1, p("p", b(0))))
	checkOpen(t, within(2, p("p", b(2))), b(greatest-2), within(2, p("p", b(greatest))))
	checkOpen(t, within(2, p("p", b(2))), b(-3), within(2, p("p", b(-3))))
}

func TestClose(t *testing.T) {
	x, y := v("x"), v("y")
	checkClose(t, api.Claim{}, "x", api.Claim{})
	checkClose(t, p("p", x, y), "x", p("p", b(0), y))
	checkClose(t, and(p("p", b(2), x), forAll("u", "A", p("p", b(0), b(1), b(5)))), "x", and(p("p", b(3), b(0)), forAll("u", "A", p("p", b(0), b(2), b(6)))))
	checkClose(t, p("p", x, y, x), "z", p("p", x, y, x))
	checkClose(t, p("p", x, b(0), b(4)), "z", p("p", x, b(1), b(5)))
	checkClose(t, and(eq(x, app("f", x, y)), exists("x", "A", p("p", app("f", x), b(0), x))), "x", and(eq(b(0), app("f", b(0), y)), exists("x", "A", p("p", app("f", b(1)), b(0), b(1)))))
	checkClose(t, p("p", v("x'"), v("X"), v("xx"), v(""), v("x\x00")), "x", p("p", v("x'"), v("X"), v("xx"), v(""), v("x\x00")))
	checkClose(t, p("p", v(""), x), "", p("p", b(0), x))
	checkClose(t, p("p", v("\xff\xfe"), x), "\xff\xfe", p("p", b(0), x))
	checkClose(t, p("p", b(-1), b(least)), "x", p("p", b(-1), b(least)))
	for k := range 5 {
		n := int64(k)
		for _, hull := range hulls() {
			checkClose(t, within(k, p("p", hull(x), y)), "x", within(k, p("p", hull(b(n)), y)))
			checkClose(t, within(k, p("p", hull(x), y)), "z", within(k, p("p", hull(x), y)))
			for m := range int64(9) {
				want := m
				if m >= n {
					want++
				}
				checkClose(t, within(k, p("p", hull(b(m)))), "x", within(k, p("p", hull(b(want)))))
			}
		}
	}
}

// A variable may have Args, a Num, and a namesake that is none.
func TestCloseOfNamesakes(t *testing.T) {
	x := v("x")
	for k := range 4 {
		n := int64(k)
		checkClose(t, within(k, p("p", withArgs(x, x, b(7), v("y")))), "x", within(k, p("p", b(n))))
		checkClose(t, within(k, p("p", withArgs(v("y"), x, b(n)))), "x", within(k, p("p", withArgs(v("y"), b(n), b(n+1)))))
		checkClose(t, within(k, p("p", api.Term{Op: api.TVar, Name: "x", Num: 9})), "x", within(k, p("p", b(n))))
		for _, op := range []int{least, -1, 0, 3, 4, 5, 6, 7, 8, 9, 1<<32 + 1, greatest} {
			checkClose(t, within(k, p("x", api.Term{Op: op, Name: "x", Num: 3, Args: []api.Term{x}})), "x", within(k, p("x", api.Term{Op: op, Name: "x", Num: 3, Args: []api.Term{b(n)}})))
		}
		checkClose(t, within(k, p("p", api.Term{Op: api.TBound, Name: "x", Num: n, Args: []api.Term{x}})), "x", within(k, p("p", api.Term{Op: api.TBound, Name: "x", Num: n + 1, Args: []api.Term{b(n)}})))
		checkClose(t, within(k, api.Claim{Op: 13, Name: "x", Sort: "x", Terms: []api.Term{x}}), "x", within(k, api.Claim{Op: 13, Name: "x", Sort: "x", Terms: []api.Term{b(n)}}))
	}
}

func TestCloseWrapsAround(t *testing.T) {
	for k := range 4 {
		checkClose(t, within(k, p("p", b(greatest))), "x", within(k, p("p", b(least))))
		checkClose(t, within(k, p("p", b(greatest-1))), "x", within(k, p("p", b(greatest))))
		checkClose(t, within(k, p("p", withArgs(b(greatest), v("x"), b(greatest)))), "x", within(k, p("p", withArgs(b(least), b(int64(k)), b(least)))))
	}
}

func TestAllAndEx(t *testing.T) {
	x := v("x")
	for _, name := range []string{"x", "", "u", "for all", "\xff"} {
		for _, s := range []string{"A", "Int", "Bool", "", "\xfe"} {
			body := p("p", x, v(name), b(0), app(name))
			want := p("p", x, b(0), b(1), app(name))
			if name == "x" {
				want = p("p", b(0), b(0), b(1), app(name))
			}
			checkClaim(t, "All", func() api.Claim { return All(name, s, body) }, api.Claim{Op: api.CAll, Name: name, Sort: s, Subs: []api.Claim{want}}, body)
			checkClaim(t, "Ex", func() api.Claim { return Ex(name, s, body) }, api.Claim{Op: api.CEx, Name: name, Sort: s, Subs: []api.Claim{want}}, body)
		}
	}
	all := All("x", "A", Ex("y", "B", p("p", x, v("y"), v("z"))))
	if !equal(all, forAll("x", "A", exists("y", "B", p("p", b(1), b(0), v("z"))))) || !Closed(all) {
		t.Error(text(all))
	}
	twice := All("x", "A", Ex("x", "B", p("p", x)))
	if !equal(twice, forAll("x", "A", exists("x", "B", p("p", b(0))))) {
		t.Error(text(twice))
	}
}

// What a binder is called makes no difference: variables of its name are not bound by it, and every call keeps it.
func TestNamesOfBindersDoNotMatter(t *testing.T) {
	for _, name := range []string{"", "x", "y", "\xff"} {
		c := forAll(name, "A", exists(name, "B", p("p", v("x"), b(0), b(1), b(2), b(3))))
		checkLoose(t, c, 0, 1)
		checkLiftClaim(t, c, 2, 1, forAll(name, "A", exists(name, "B", p("p", v("x"), b(0), b(1), b(2), b(5)))))
		checkOpen(t, c, v("x"), forAll(name, "A", exists(name, "B", p("p", v("x"), b(0), b(1), v("x"), b(2)))))
		checkClose(t, c, "x", forAll(name, "A", exists(name, "B", p("p", b(2), b(0), b(1), b(3), b(4)))))
	}
}

// someTerms are small terms, right and wrong ones.
func someTerms() []api.Term {
	x := v("x")
	l := []api.Term{{}, x, v("y"), v(""), app("x"), app("c"), num(0), num(5), b(0), b(1), b(2), b(3), b(4), b(-1), b(least), b(greatest), b(greatest - 1), b(1 << 62), {Op: 9, Name: "x", Num: 2}, {Op: api.TBound, Name: "x", Num: 1}, {Op: api.TVar, Name: "x", Num: 3, Args: []api.Term{}}}
	for _, a := range []api.Term{x, b(0), b(1), b(2), b(-1), {}} {
		for _, hull := range hulls()[1:] {
			l = append(l, hull(a))
		}
		l = append(l, withArgs(b(0), a), withArgs(b(1), a, a), withArgs(b(3), x, a), withArgs(x, a), withArgs(v("y"), a, x), withArgs(num(1), withArgs(b(1), a)))
	}
	return l
}

// someClaims are small claims, right and wrong ones, with those terms within and outside of binders.
func someClaims() []api.Claim {
	l := []api.Claim{{}, sample.True(), p("x"), {Op: 13, Name: "x", Sort: "x"}, made(api.CAll), made(api.CNot), withTerms(made(api.CEx), v("x"), b(0)), {Op: api.CPred, Name: "p", Terms: []api.Term{}, Subs: []api.Claim{}}}
	for i, x := range someTerms() {
		l = append(l, p("p", x), within(1, eq(x, b(0))), within(2, not(p("p", b(1), x))), and(p("p", x), within(1, p("q", x))), within(3, or(le(b(3), x), forAll("x", "A", p("p", x, v("x"))))))
		op := others()[i%len(others())]
		l = append(l, withTerms(made(op, p("p", x), within(1, p("p", x))), x), withTerms(within(1, withTerms(within(2, p("p", x)), x)), x), made(api.CAll+i%2, p("p", x), p("q", x, b(1)), within(1, p("p", x))))
	}
	return l
}

func someNumbers() []int {
	return []int{least, least + 1, -3, -1, 0, 1, 2, 3, 1 << 62, greatest - 1, greatest}
}

// All calls answer as the chapter says, word by word, for all small terms and claims.
func TestCallsFollowTheChapter(t *testing.T) {
	open := 0
	for _, x := range someTerms() {
		checkLooseTerm(t, x, wantLooseTerm(x)...)
		for _, by := range someNumbers() {
			checkLift(t, x, by, wantLift(x, by))
		}
	}
	for _, c := range someClaims() {
		checkLoose(t, c, wantLoose(c)...)
		if len(wantLoose(c)) > 0 {
			open++
		}
		for _, by := range someNumbers() {
			for _, from := range someNumbers() {
				checkLiftClaim(t, c, by, from, wantLiftClaim(c, by, from))
			}
		}
		for _, x := range someTerms() {
			checkOpen(t, c, x, wantOpen(c, x))
		}
		for _, name := range []string{"x", "y", "", "c", "p", "z"} {
			checkClose(t, c, name, wantClose(c, name))
		}
	}
	if n := len(someClaims()); open < 200 || n-open < 100 {
		t.Error("too few claims of a kind:", open, n)
	}
}

// Whatever becomes of an argument or of an answer, the other one stays as it was.
func TestAnswersShareNoMemory(t *testing.T) {
	whole := func() api.Claim {
		return and(p("p", app("f", b(0)), v("x")), forAll("u", "A", p("p", app("f", b(1), v("x")), b(2))))
	}
	c, x := whole(), app("g", v("y"), b(0))
	calls := map[string]func() api.Claim{
		"LiftClaim": func() api.Claim { return LiftClaim(c, 1, 0) },
		"by 0":      func() api.Claim { return LiftClaim(c, 0, 0) },
		"Lift":      func() api.Claim { return one(Lift(x, 0)) },
		"Open":      func() api.Claim { return Open(c, x) },
		"Close":     func() api.Claim { return Close(c, "x") },
		"not found": func() api.Claim { return Close(c, "z") },
		"All":       func() api.Claim { return All("x", "A", c) },
		"Ex":        func() api.Claim { return Ex("x", "A", c) },
	}
	for name, call := range calls {
		got, want := call(), call()
		sample.SpoilClaim(got)
		if !equal(c, whole()) || !equalTerms(x, app("g", v("y"), b(0))) {
			t.Errorf("%s: a changed answer changed %s or %s", name, text(c), termText(x))
		}
		kept := call()
		sample.SpoilClaim(c)
		sample.SpoilTerm(x)
		if !equal(kept, want) {
			t.Errorf("%s: a changed argument changed %s", name, text(kept))
		}
		c, x = whole(), app("g", v("y"), b(0))
	}
	numbers, others := Loose(c), LooseTerm(x)
	numbers[0], others[0] = 99, 99
	if !slices.Equal(Loose(c), []int{0, 1}) || !slices.Equal(LooseTerm(x), []int{0}) {
		t.Error(Loose(c), LooseTerm(x))
	}
}

// Nothing is written behind the lists of an argument.
func TestRoomBehindLists(t *testing.T) {
	terms := []api.Term{b(0), v("x"), v("free"), v("free")}
	claims := []api.Claim{{Op: api.CPred, Terms: terms[:2]}, p("free"), p("free")}
	c := api.Claim{Op: api.CNot, Subs: claims[:1]}
	x := api.Term{Op: api.TApp, Name: "f", Args: terms[:2]}
	for _, a := range []api.Claim{LiftClaim(c, 1, 0), Open(c, x), Close(c, "x"), All("x", "A", c), Ex("x", "A", c)} {
		_ = append(a.Subs, p("spoilt"))
		_ = append(a.Subs[0].Terms, v("spoilt"))
	}
	_ = append(Lift(x, 0).Args, v("spoilt"))
	if !equal(one(terms...), one(b(0), v("x"), v("free"), v("free"))) || !equal(made(0, claims...), made(0, api.Claim{Op: api.CPred, Terms: terms[:2]}, p("free"), p("free"))) {
		t.Error(sample.ClaimTexts(claims), sample.TermTexts(terms))
	}
}

// Claims and terms may be far larger and deeper than any right one.
func TestDeepAndLargeClaims(t *testing.T) {
	const n = 1 << 16
	x, y := v("x"), v("y")
	deep := within(n, p("p", b(n), b(n-1), b(n+5), x))
	checkLoose(t, deep, 0, 5)
	checkLiftClaim(t, deep, 2, 1, within(n, p("p", b(n), b(n-1), b(n+7), x)))
	checkLiftClaim(t, deep, -2, 0, within(n, p("p", b(n), b(n-1), b(n+3), x)))
	checkOpen(t, deep, app("f", b(1), y), within(n, p("p", app("f", b(n+1), y), b(n-1), b(n+4), x)))
	checkClose(t, deep, "x", within(n, p("p", b(n+1), b(n-1), b(n+6), b(n))))
	long := sample.Chain(n, withArgs(b(1), x))
	checkLooseTerm(t, long, 1)
	checkLift(t, long, -9, sample.Chain(n, withArgs(b(0), x)))
	checkOpen(t, within(1, p("p", sample.Chain(n, b(1)))), app("f", b(1)), within(1, p("p", sample.Chain(n, app("f", b(2))))))
	checkClose(t, p("p", long), "x", p("p", sample.Chain(n, withArgs(b(2), b(0)))))
	var many, lifted, opened []api.Term
	var numbers []int
	for i := range 20000 {
		m := int64(i * 7919 % 20000)
		many, lifted, numbers = append(many, b(m), x), append(lifted, b(max(m-3, 0)), x), append(numbers, i)
		if m == 0 {
			opened = append(opened, y, x)
		} else {
			opened = append(opened, b(m-1), x)
		}
	}
	checkLoose(t, and(p("p", many...), p("q", many...)), numbers...)
	checkLooseTerm(t, app("f", many...), numbers...)
	checkLift(t, app("f", many...), -3, app("f", lifted...))
	checkOpen(t, p("p", many...), y, p("p", opened...))
	subs := slices.Repeat([]api.Claim{p("p", x)}, 50000)
	checkClose(t, made(api.CAnd, subs...), "x", made(api.CAnd, slices.Repeat([]api.Claim{p("p", b(0))}, 50000)...))
	for _, c := range []api.Claim{sample.SizedClaim(4096), sample.Heavy(4096), sample.Heavy(4097)} {
		checkLoose(t, c)
		checkOpen(t, c, y, c)
		checkLiftClaim(t, c, 1, 0, c)
		checkOpen(t, Close(c, "x"), x, c)
	}
}

// Promise 9.3.

// rightTerms are small right terms, up to numbers just below 2^62.
func rightTerms() []api.Term {
	x, y := v("x"), v("y")
	return []api.Term{x, y, app("c"), num(7), b(0), b(1), b(2), b(3), b(1<<62 - 1), app("f", x, b(0)), app("f", b(1), app("f", y, b(2))), add(b(0), num(1)), sub(x, b(1)), neg(b(2)), mul(-3, add(x, b(0))), v("")}
}

// rightClaims are all small right claims of these terms, within up to three binders.
func rightClaims(t *testing.T) []api.Claim {
	var l []api.Claim
	for _, x := range rightTerms() {
		for _, y := range rightTerms() {
			l = append(l, p("p", x, y), within(1, eq(x, y)), within(2, le(x, y)), and(p("p", x), forAll("x", "A", p("q", y))), forAll("y", "A", imp(p("p", x), exists("x", "B", not(p("p", y, x))))), within(3, p("p", x, y, app("f", x))), or(within(2, eq(x, y)), sample.Iff(p("p", y), within(1, p("p", x)))))
		}
	}
	l = append(l, sample.True(), sample.False(), p("p"), sample.Heavy(4096), within(63, p("p", v("x"), b(62), b(63), b(70))), sample.SizedClaim(4096))
	for _, c := range l {
		if e := claim.Right(c); e != api.OK {
			t.Fatal(text(c), e)
		}
	}
	return l
}

func TestOpenOfClose(t *testing.T) {
	for _, c := range rightClaims(t) {
		for _, name := range []string{"x", "y", "z", "", "c"} {
			if got := Open(Close(c, name), v(name)); !equal(got, c) {
				t.Errorf("%s closed by %q and opened again is %s", text(c), name, text(got))
			}
			if got := Open(All(name, "A", c).Subs[0], v(name)); !equal(got, c) {
				t.Errorf("All of %s by %q, opened, is %s", text(c), name, text(got))
			}
		}
	}
}

func TestCloseOfOpen(t *testing.T) {
	closed := 0
	for _, c := range rightClaims(t) {
		for _, name := range []string{"x", "y", "z", "", "c", "p"} {
			if slices.Contains(claim.Names(c), name) {
				continue
			}
			closed++
			if got := Close(Open(c, v(name)), name); !equal(got, c) {
				t.Errorf("%s opened with %q and closed again is %s", text(c), name, text(got))
			}
		}
	}
	if closed < 2000 {
		t.Error(closed)
	}
}

func TestLooseOfOpen(t *testing.T) {
	for _, c := range rightClaims(t) {
		var want []int
		for _, n := range Loose(c) {
			if n > 0 {
				want = append(want, n-1)
			}
		}
		for _, x := range []api.Term{v("x"), app("c"), num(0), app("f", v("y"), add(num(1), v("x")))} {
			if got := Loose(Open(c, x)); !slices.Equal(got, want) {
				t.Errorf("%s opened with %s has %v; want %v", text(c), termText(x), got, want)
			}
		}
	}
}

// Right claims stay right, but for their size, and a variable that was closed is gone.
func TestClosedNamesAreGone(t *testing.T) {
	for _, c := range rightClaims(t) {
		for _, name := range []string{"x", "y", ""} {
			got := Close(c, name)
			want := slices.DeleteFunc(claim.Names(c), func(n string) bool { return n == name })
			if !slices.Equal(claim.Names(got), want) || claim.Right(got) != api.OK || claim.Size(got) != claim.Size(c) {
				t.Errorf("%s closed by %q is %s", text(c), name, text(got))
			}
			if slices.Contains(claim.Names(c), name) != slices.Contains(Loose(got), 0) {
				t.Errorf("%s closed by %q has %v", text(c), name, Loose(got))
			}
		}
	}
	for _, x := range someTerms() {
		if lifted := Lift(x, 3); (term.Right(lifted) == api.OK) != (term.Right(x) == api.OK) {
			t.Errorf("%s lifted is %s", termText(x), termText(lifted))
		}
	}
}
