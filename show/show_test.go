package show

import (
	"math"
	"slices"
	"strconv"
	"strings"
	"testing"

	"sequitur/api"
	"sequitur/claim"
	"sequitur/sample"
	"sequitur/term"
)

// Short names for what the tests are full of.
var (
	v, num, app, b        = sample.Var, sample.Num, sample.App, sample.Bound
	add, sub, neg, mul    = sample.Add, sample.Sub, sample.Neg, sample.Mul
	truth, falsity        = sample.True, sample.False
	p, eq, le, made       = sample.Pred, sample.Eq, sample.Le, sample.Made
	not, and, or, imp     = sample.Not, sample.And, sample.Or, sample.Imp
	iff, forAll, exists   = sample.Iff, sample.All, sample.Ex
	withArgs, withTerms   = sample.WithArgs, sample.WithTerms
	withSubs              = sample.WithSubs
	text, termText        = sample.ClaimText, sample.TermText
	fn, free, wrongTerms  = sample.Fun, sample.Free, sample.WrongTerms
	someNames, wrongNames = sample.Names, sample.NoNames
)

const (
	least    = math.MinInt64
	greatest = math.MaxInt64
)

// times is s n times.
func times(n int, s string) string { return strings.Repeat(s, n) }

// Promise 14.1.

// shownTerm is a term, and its text where it is no operand.
type shownTerm struct {
	term api.Term
	text string
}

// termsOfAllKinds have a name, a number or an operator outside.
func termsOfAllKinds() []shownTerm {
	x, y := v("x"), v("y")
	return []shownTerm{
		{x, "x"}, {app("c"), "c"}, {app("f", x), "f(x)"}, {app("g", x, num(-1), add(x, y)), "g(x, -1, x + y)"}, {b(0), "'0"}, {b(12), "'12"},
		{num(0), "0"}, {num(7), "7"}, {num(-7), "-7"}, {num(greatest), "9223372036854775807"}, {num(least), "-9223372036854775808"},
		{add(x, y), "x + y"}, {sub(x, y), "x - y"}, {neg(x), "-x"}, {neg(num(3)), "-(3)"}, {mul(2, x), "2 * x"}, {mul(-2, x), "(-2) * x"}, {mul(0, x), "0 * x"},
	}
}

// operand is the text of x in parentheses if x is a negative number or has one of the Ops.
func (x shownTerm) operand(ops ...int) string {
	if x.term.Op == 4 && x.term.Num < 0 || slices.Contains(ops, x.term.Op) {
		return "(" + x.text + ")"
	}
	return x.text
}

func TestTerm(t *testing.T) {
	for _, x := range termsOfAllKinds() {
		checkTerm(t, x.term, x.text)
	}
	x, y, z := v("x"), v("y"), v("z")
	for want, whole := range map[string]api.Term{
		"2 * x - (y + (-1))":     sub(mul(2, x), add(y, num(-1))),
		"x + y + z":              add(add(x, y), z),
		"x + (y + z)":            add(x, add(y, z)),
		"x - y - z":              sub(sub(x, y), z),
		"x - (y - z)":            sub(x, sub(y, z)),
		"x - y + z":              add(sub(x, y), z),
		"x - (y + z)":            sub(x, add(y, z)),
		"-x + -y":                add(neg(x), neg(y)),
		"x - -y":                 sub(x, neg(y)),
		"---x":                   neg(neg(neg(x))),
		"--(3)":                  neg(neg(num(3))),
		"-(-3)":                  neg(num(-3)),
		"-(2 * x)":               neg(mul(2, x)),
		"-(x + y) - z":           sub(neg(add(x, y)), z),
		"2 * -x":                 mul(2, neg(x)),
		"2 * 3":                  mul(2, num(3)),
		"(-2) * (-3)":            mul(-2, num(-3)),
		"2 * (3 * (4 * x))":      mul(2, mul(3, mul(4, x))),
		"2 * (x + y) + 3 * z":    add(mul(2, add(x, y)), mul(3, z)),
		"(-1) - (-1)":            sub(num(-1), num(-1)),
		"f(1 - x, (-1) * f(-1))": app("f", sub(num(1), x), mul(-1, app("f", num(-1)))),
	} {
		checkTerm(t, whole, want)
	}
}

func TestOperands(t *testing.T) {
	for _, x := range termsOfAllKinds() {
		checkTerm(t, neg(x.term), "-"+x.operand(4, 5, 6, 8))
		for n, digits := range map[int64]string{0: "0", 1: "1", 25: "25", greatest: "9223372036854775807", -1: "(-1)", -25: "(-25)", least: "(-9223372036854775808)"} {
			checkTerm(t, mul(n, x.term), digits+" * "+x.operand(5, 6, 8))
		}
		checkTerm(t, app("f", x.term), "f("+x.text+")")
		for _, y := range termsOfAllKinds() {
			checkTerm(t, add(x.term, y.term), x.operand()+" + "+y.operand(5, 6))
			checkTerm(t, sub(x.term, y.term), x.operand()+" - "+y.operand(5, 6))
			checkTerm(t, app("g", x.term, y.term, x.term), "g("+x.text+", "+y.text+", "+x.text+")")
			checkClaim(t, eq(x.term, y.term), x.text+" = "+y.text)
			checkClaim(t, le(x.term, y.term), x.text+" <= "+y.text)
			checkClaim(t, p("p", x.term, y.term), "p("+x.text+", "+y.text+")")
		}
	}
}

func TestNumbers(t *testing.T) {
	for i := range 63 {
		for _, n := range []int64{1<<i - 1, 1 << i, -1 << i, -1<<i - 1} {
			s := strconv.FormatInt(n, 10)
			inside := s
			if n < 0 {
				inside = "(" + s + ")"
			}
			checkTerm(t, num(n), s)
			checkTerm(t, neg(num(n)), "-("+s+")")
			checkTerm(t, add(num(n), num(n)), inside+" + "+inside)
			checkTerm(t, mul(n, num(n)), inside+" * "+inside)
			checkTerm(t, mul(n, v("x")), inside+" * x")
		}
	}
}

func TestArgs(t *testing.T) {
	var l []api.Term
	want := "f"
	for n := range 9 {
		checkTerm(t, app("f", l...), want+times(min(n, 1), ")"))
		checkClaim(t, p("f", l...), want+times(min(n, 1), ")"))
		checkTerm(t, neg(app("f", l...)), "-"+want+times(min(n, 1), ")"))
		l = append(l, v("x"+strconv.Itoa(n)))
		want += []string{"(", ", "}[min(n, 1)] + "x" + strconv.Itoa(n)
	}
	checkTerm(t, app("f", app("f", app("g", app("c"), v("x")))), "f(f(g(c, x)))")
}

// Names are printed as they are: they need not be names.
func TestNamesAreTexts(t *testing.T) {
	for _, name := range append(someNames(), wrongNames()...) {
		checkTerm(t, v(name), name)
		checkTerm(t, app(name), name)
		checkTerm(t, app(name, v(name), neg(app(name))), name+"("+name+", -"+name+")")
		checkClaim(t, p(name), name)
		checkClaim(t, not(p(name, v(name))), "~"+name+"("+name+")")
		checkClaim(t, exists("u'", name, p("q", b(0))), "?u': "+name+". q(u')")
	}
}

// A number that no binder binds counts from where the binders end.
func TestUnboundNumbers(t *testing.T) {
	for _, n := range []int64{0, 1, 2, 9, 10, 64, 1 << 31, 1 << 32, 1 << 62, greatest} {
		checkTerm(t, b(n), "'"+strconv.FormatInt(n, 10))
		checkTerm(t, sub(app("f", b(n)), neg(b(n))), strings.ReplaceAll("f('n) - -'n", "n", strconv.FormatInt(n, 10)))
		checkTerm(t, mul(2, b(n)), "2 * '"+strconv.FormatInt(n, 10))
	}
	for k := range 6 {
		around := ""
		for i := range k {
			around += "!u" + strconv.Itoa(i) + ": A. "
		}
		inside := func(c api.Claim) api.Claim {
			for i := range k {
				c = forAll("u"+strconv.Itoa(k-1-i), "A", c)
			}
			return c
		}
		for n := range 9 {
			want := "'" + strconv.Itoa(n-k)
			if n < k {
				want = "u" + strconv.Itoa(k-1-n)
			}
			x := b(int64(n))
			checkClaim(t, inside(p("q", x)), around+"q("+want+")")
			checkClaim(t, inside(eq(neg(x), app("f", v("x"), x))), around+"-"+want+" = f(x, "+want+")")
			checkClaim(t, or(p("q", x), inside(not(p("q", x)))), "q('"+strconv.Itoa(n)+") | "+around+"~q("+want+")")
			checkClaim(t, and(inside(p("q", x)), p("q", x)), map[bool]string{true: "q(" + want + ")", false: "(" + around + "q(" + want + "))"}[k == 0]+" & q('"+strconv.Itoa(n)+")")
		}
		checkClaim(t, inside(p("q", b(greatest))), around+"q('"+strconv.FormatInt(int64(greatest-k), 10)+")")
	}
}

// smallTerms are names and numbers, with operators nested at most twice within each other.
func smallTerms() []api.Term {
	l := []api.Term{v("x"), app("c"), app("f", v("y")), num(0), num(3), num(-3), b(0), b(1)}
	next := func(l []api.Term) []api.Term {
		var more []api.Term
		for _, x := range l {
			more = append(more, neg(x), mul(2, x), mul(-2, x), mul(0, x), app("f", x))
			for _, y := range l {
				more = append(more, add(x, y), sub(x, y), app("g", x, y))
			}
		}
		return more
	}
	once := next(l)
	return slices.Concat(l, once, next(slices.Concat(l[:4], l[5:6], once[:15], once[60:80])))
}

func TestTermsFollowTheChapter(t *testing.T) {
	for _, x := range smallTerms() {
		followTerm(t, x)
	}
	next := sample.Scattered(88172645463325252)
	for range 6000 {
		followTerm(t, scatteredTerm(next, 6))
	}
}

func TestTermsAtTheLimits(t *testing.T) {
	x := v("x")
	chain := func(wrap func(api.Term) api.Term) api.Term { return sample.Nested(63, x, wrap) }
	checkTerm(t, chain(neg), times(63, "-")+"x")
	checkTerm(t, chain(func(x api.Term) api.Term { return app("f", x) }), times(63, "f(")+"x"+times(63, ")"))
	checkTerm(t, chain(func(x api.Term) api.Term { return mul(-3, x) }), times(62, "(-3) * (")+"(-3) * x"+times(62, ")"))
	checkTerm(t, chain(func(x api.Term) api.Term { return add(x, b(1)) }), "x"+times(63, " + '1"))
	checkTerm(t, chain(func(x api.Term) api.Term { return sub(num(-1), x) }), times(62, "(-1) - (")+"(-1) - x"+times(62, ")"))
	wide := sample.SizedTerm(4096)
	if s := Term(wide); term.Right(wide) != 0 || strings.Count(s, "x")+strings.Count(s, "f") != 4096 || !isTerm(s, plainTerm(wide)) {
		t.Error(quoted(s))
	}
}

// Promise 14.2.

// shownClaim is a claim, and its text where it is no operand.
type shownClaim struct {
	claim api.Claim
	text  string
}

// claimsOfAllKinds have each Op outside.
func claimsOfAllKinds() []shownClaim {
	r, s, x := p("r"), p("s"), v("x")
	return []shownClaim{
		{truth(), "true"}, {falsity(), "false"}, {r, "r"}, {p("p", x), "p(x)"}, {p("p", num(-1), x, add(x, num(-1))), "p(-1, x, x + (-1))"},
		{eq(x, app("c")), "x = c"}, {eq(num(-1), add(x, x)), "-1 = x + x"}, {le(mul(-2, x), num(-1)), "(-2) * x <= -1"}, {le(sub(x, x), neg(x)), "x - x <= -x"},
		{not(r), "~r"}, {not(not(s)), "~~s"}, {not(eq(x, x)), "~x = x"}, {and(r, s), "r & s"}, {or(r, s), "r | s"}, {imp(r, s), "r -> s"}, {iff(r, s), "r <-> s"},
		{forAll("u", "A", p("q", b(0))), "!u: A. q(u)"}, {exists("w", "Int", le(b(0), b(0))), "?w: Int. w <= w"},
		{forAll("u", "A", or(p("q", b(0)), s)), "!u: A. q(u) | s"}, {exists("w", "B", iff(r, s)), "?w: B. r <-> s"},
	}
}

// operand is the text of c in parentheses if c has one of the Ops.
func (c shownClaim) operand(ops ...int) string {
	if slices.Contains(ops, c.claim.Op) {
		return "(" + c.text + ")"
	}
	return c.text
}

func TestClaim(t *testing.T) {
	for _, c := range claimsOfAllKinds() {
		checkClaim(t, c.claim, c.text)
		checkClaim(t, not(c.claim), "~"+c.operand(7, 8, 9, 10))
		checkClaim(t, forAll("z", "A", c.claim), "!z: A. "+c.text)
		checkClaim(t, exists("z", "Int", c.claim), "?z: Int. "+c.text)
		for _, d := range claimsOfAllKinds() {
			checkClaim(t, and(c.claim, d.claim), c.operand(7, 8, 9, 10, 11, 12)+" & "+d.operand(8, 9, 10))
			checkClaim(t, or(c.claim, d.claim), c.operand(8, 9, 10, 11, 12)+" | "+d.operand(9, 10))
			checkClaim(t, imp(c.claim, d.claim), c.operand(9, 10, 11, 12)+" -> "+d.operand(10))
			checkClaim(t, iff(c.claim, d.claim), c.operand(10, 11, 12)+" <-> "+d.text)
			checkClaim(t, forAll("z", "A", and(c.claim, d.claim)), "!z: A. "+c.operand(7, 8, 9, 10, 11, 12)+" & "+d.operand(8, 9, 10))
			checkClaim(t, not(iff(c.claim, d.claim)), "~("+c.operand(10, 11, 12)+" <-> "+d.text+")")
		}
	}
}

// A binder extends as far as it can: only what follows it makes parentheses needed.
func TestBindersThatAreFollowed(t *testing.T) {
	r, s, u := p("r"), p("s"), "!u: A. q(u)"
	all := forAll("u", "A", p("q", b(0)))
	for _, x := range []struct {
		claim api.Claim
		want  string
	}{
		{and(p("p"), forAll("x", "A", p("q", b(0)))), "p & !x: A. q(x)"}, {and(forAll("x", "A", p("q", b(0))), p("p")), "(!x: A. q(x)) & p"},
		{not(all), "~U"}, {and(not(all), r), "~(U) & r"}, {and(r, not(all)), "r & ~U"}, {or(not(not(all)), r), "~~(U) | r"}, {not(and(r, all)), "~(r & U)"}, {and(not(and(r, all)), s), "~(r & U) & s"},
		{and(r, all), "r & U"}, {or(and(r, all), s), "r & (U) | s"}, {and(and(r, all), s), "(r & U) & s"}, {and(r, and(all, s)), "r & (U) & s"}, {and(r, and(s, all)), "r & s & U"},
		{and(or(r, all), s), "(r | U) & s"}, {or(r, or(and(s, all), r)), "r | s & (U) | r"}, {or(r, or(s, and(r, all))), "r | s | r & U"}, {imp(imp(r, all), s), "(r -> U) -> s"},
		{iff(imp(r, imp(s, all)), r), "r -> s -> (U) <-> r"}, {iff(imp(r, imp(s, all)), all), "r -> s -> (U) <-> U"}, {imp(or(r, and(s, not(all))), r), "r | s & ~(U) -> r"}, {imp(iff(r, all), s), "(r <-> U) -> s"},
		{imp(r, iff(s, all)), "r -> (s <-> U)"}, {iff(imp(r, iff(s, all)), r), "r -> (s <-> U) <-> r"}, {iff(all, iff(all, all)), "(U) <-> (U) <-> U"}, {and(and(all, all), all), "((U) & U) & U"},
		{forAll("w", "A", and(r, all)), "!w: A. r & U"}, {forAll("w", "A", and(all, r)), "!w: A. (U) & r"}, {and(forAll("w", "A", and(r, all)), s), "(!w: A. r & U) & s"}, {and(exists("w", "A", all), s), "(?w: A. U) & s"},
		{forAll("w", "A", all), "!w: A. U"}, {not(forAll("w", "A", not(all))), "~!w: A. ~U"}, {or(not(forAll("w", "A", not(all))), r), "~(!w: A. ~U) | r"}, {imp(r, forAll("w", "A", iff(all, all))), "r -> !w: A. (U) <-> U"},
		{forAll("w", "A", imp(r, exists("z", "B", and(s, not(all))))), "!w: A. r -> ?z: B. s & ~U"}, {and(r, imp(forAll("w", "A", r), all)), "r & ((!w: A. r) -> U)"},
	} {
		checkClaim(t, x.claim, strings.ReplaceAll(x.want, "U", u))
	}
}

// smallClaims are all claims of the three, and of some more, with connectives and binders nested at most twice within each other.
func smallClaims() []api.Claim {
	next := func(l []api.Claim) []api.Claim {
		var more []api.Claim
		for _, c := range l {
			more = append(more, not(c), forAll("x", "A", c), exists("", "Int", c))
			for _, d := range l {
				more = append(more, and(c, d), or(c, d), imp(c, d), iff(c, d))
			}
		}
		return more
	}
	l := []api.Claim{p("r"), le(v("x"), num(-1)), forAll("x", "A", p("q", b(0)))}
	l = append(l, next(l)...)
	return slices.Concat(l, []api.Claim{truth(), falsity(), p("q", b(0)), p("x"), eq(app("x1"), neg(b(1))), p("p", app("x", v("y"), b(0)))}, next(l))
}

func TestClaimsFollowTheChapter(t *testing.T) {
	for _, c := range smallClaims() {
		followClaim(t, c)
	}
	next := sample.Scattered(2463534242)
	for range 4000 {
		followClaim(t, scatteredClaim(next, 5))
	}
}

func TestClaimsAtTheLimits(t *testing.T) {
	r := p("r")
	chain := func(wrap func(api.Claim) api.Claim) api.Claim { return sample.Nested(63, r, wrap) }
	checkClaim(t, chain(not), times(63, "~")+"r")
	checkClaim(t, chain(func(c api.Claim) api.Claim { return and(r, c) }), times(63, "r & ")+"r")
	checkClaim(t, chain(func(c api.Claim) api.Claim { return imp(c, r) }), times(62, "(")+"r -> r"+times(62, ") -> r"))
	checkClaim(t, sample.Nested(31, r, func(c api.Claim) api.Claim { return or(not(c), r) }), times(30, "~(")+"~r | r"+times(30, ") | r"))
	binders, names := "!x: A. ", "x"
	for i := range 62 {
		binders += "!x" + strconv.Itoa(i+1) + ": A. "
		names = "x" + strconv.Itoa(i+1)
	}
	checkClaim(t, sample.Nested(63, p("q", b(0), b(62)), func(c api.Claim) api.Claim { return forAll("x", "A", c) }), binders+"q("+names+", x)")
	wide := sample.SizedClaim(4096)
	if s := Claim(wide); claim.Right(wide) != 0 || !isClaim(s, plain(wide)) {
		t.Error(quoted(s))
	}
	heavy := sample.Heavy(4096)
	checkClaim(t, heavy, "p"+strings.TrimPrefix(Term(app("f", heavy.Terms...)), "f"))
}

// Promise 14.3.

func TestFresh(t *testing.T) {
	for base, l := range map[string][][]string{
		"h":  {nil, {}, {"x"}, {"h1", "h2"}, {"H", "h'", "hh", "h0", "h ", ""}},
		"h1": {{"h"}, {"h", "h", "h"}, {"h", "h2", "h3"}, {"h", "h01", "h10", "h11", "h 1", "h1 ", "h+1", "h1'"}, {"x", "h", "y"}},
		"h2": {{"h", "h1"}, {"h1", "h"}, {"h1", "h", "h1", "h"}, {"h3", "h1", "h", "h4", "h02"}},
		"h3": {{"h", "h1", "h2"}, {"h2", "h2", "h1", "h", "h4"}},
	} {
		for _, taken := range l {
			checkFresh(t, "h", taken, base)
		}
	}
	checkFresh(t, "h1", []string{"h1"}, "h11")
	checkFresh(t, "h1", []string{"h1", "h11", "h12", "h2"}, "h13")
	checkFresh(t, "x0", []string{"x0"}, "x01")
	checkFresh(t, "h", []string{"h", "h1", "h2", "h3", "h4", "h5", "h6", "h7", "h8", "h9", "h11"}, "h10")
	for _, base := range append(someNames(), wrongNames()...) {
		checkFresh(t, base, nil, base)
		checkFresh(t, base, []string{base}, base+"1")
		checkFresh(t, base, []string{base + "2", base, base + "1", base}, base+"3")
		checkFresh(t, base, []string{base + "1", base + "0", "h"}, base)
	}
}

func TestFreshFollowsTheChapter(t *testing.T) {
	pool := []string{"h", "h1", "h2", "h3", "h11", "h01", "", "1", "H"}
	for set := range 1 << len(pool) {
		var taken []string
		for i, name := range pool {
			if set>>i&1 == 1 {
				taken = append(taken, name)
			}
		}
		for _, base := range pool {
			checkFresh(t, base, taken, wantFresh(base, taken))
			checkFresh(t, base, slices.Concat(taken, taken), wantFresh(base, taken))
		}
	}
}

func TestFreshOfManyNames(t *testing.T) {
	var taken []string
	for i := range 1 << 16 {
		taken = append(taken, "h"+strconv.Itoa(1<<16-i))
	}
	checkFresh(t, "h", taken, "h")
	checkFresh(t, "h", append(taken, "h"), "h65537")
	checkFresh(t, "h", append(slices.Delete(slices.Clone(taken), 10, 11), "h"), "h65526")
	checkFresh(t, "h", slices.Repeat([]string{"h"}, 1<<20), "h1")
}

func TestNamesOfBinders(t *testing.T) {
	q := p("q", b(0))
	long := times(32, "a")
	for _, name := range someNames() {
		checkClaim(t, forAll(name, "A", q), "!"+name+": A. q("+name+")")
		checkClaim(t, exists(name, name, q), "?"+name+": "+name+". q("+name+")")
	}
	for _, name := range wrongNames() {
		checkClaim(t, forAll(name, "A", q), "!x: A. q(x)")
		checkClaim(t, exists(name, name, and(p("x"), q)), "?x1: "+name+". x & q(x1)")
		checkClaim(t, exists("x", "A", forAll(name, "A", p("q", b(0), b(1)))), "?x: A. !x1: A. q(x1, x)")
	}
	for want, c := range map[string]api.Claim{
		"!x: A. ?y: B. q(y, x)":          forAll("x", "A", exists("y", "B", p("q", b(0), b(1)))),
		"!x1: A. q(x1, x)":               forAll("x", "A", p("q", b(0), v("x"))),
		"!c1: A. q(c1, c)":               forAll("c", "A", p("q", b(0), app("c"))),
		"!f1: A. q(f(f1))":               forAll("f", "A", p("q", app("f", b(0)))),
		"!q1: A. q(q1)":                  forAll("q", "A", q),
		"!r1: A. q(r1) & r":              forAll("r", "A", and(q, p("r"))),
		"(!r1: A. q(r1)) & r":            and(forAll("r", "A", q), p("r")),
		"r -> !r1: A. q(r1)":             imp(p("r"), forAll("r", "A", q)),
		"(!x1: A. q(x1)) | y = f(-x)":    or(forAll("x", "A", q), eq(v("y"), app("f", neg(v("x"))))),
		"2 * x + 1 <= c & ?c1: A. q(c1)": and(le(add(mul(2, v("x")), num(1)), app("c")), exists("c", "A", q)),
		"!x: A. !x1: A. q(x1, x)":        forAll("x", "A", forAll("x", "A", p("q", b(0), b(1)))),
		"!x: A. ?x1: B. !x2: A. q(x2)":   forAll("x", "A", exists("x", "B", forAll("x", "A", q))),
		"(!x: A. q(x)) & ?x: B. q(x)":    and(forAll("x", "A", q), exists("x", "B", q)),
		"!x: A. (?x1: A. r) & ?x1: A. r": forAll("x", "A", and(exists("x", "A", p("r")), exists("x", "A", p("r")))),
		"!x1: A. !x: A. !x2: A. q(x2)":   forAll("x1", "A", forAll("x", "A", forAll("x", "A", q))),
		"!x1: A. !x11: A. q(x11, x1)":    forAll("x1", "A", forAll("x1", "A", p("q", b(0), b(1)))),
		"!x2: A. !x3: A. q(x, x1, x3)":   forAll("x", "A", forAll("", "A", p("q", v("x"), app("x1"), b(0)))),
		"x & !x4: A. !x5: A. x3(x1, x2)": and(p("x"), forAll("x", "A", forAll("x", "A", p("x3", v("x1"), app("x2"))))),
		"!x: A. !x1: A. !y: A. q(x1)":    forAll("", "A", forAll("true", "A", forAll("y", "A", p("q", b(1))))),
		"!y1: A. !y2: A. q(y1, y)":       forAll("y", "A", forAll("y", "A", p("q", b(1), v("y")))),
		"!A: A. q(A)":                    forAll("A", "A", q),
		"!y: A. q(x)":                    forAll("y", "A", p("q", v("x"))),
		"!u: A. q(u, '0)":                forAll("u", "A", p("q", b(0), b(1))),
		"!" + long + ": A. !x: A. q(x)":  forAll(long, "A", forAll(long, "A", q)),
		"!x: A. q(x, " + long + ")":      forAll(long, "A", p("q", b(0), v(long))),
		"!x1: A. q(x1, x(" + long + "))": forAll(long, "A", p("q", b(0), app("x", v(long)))),
	} {
		checkClaim(t, c, want)
	}
}

// A printed name has no more bytes than a name may have.
func TestLongNamesOfBinders(t *testing.T) {
	for n := 20; n < 40; n++ {
		name := times(n, "b")
		one, ten := name+"1", name+"10"
		switch {
		case n > 32:
			name, one, ten = "x", "x", "x"
		case n > 31:
			one, ten = "x", "x"
		case n > 30:
			ten = "x"
		}
		taken := []api.Term{v(times(n, "b"))}
		checkClaim(t, forAll(times(n, "b"), "A", p("q", b(0))), "!"+name+": A. q("+name+")")
		checkClaim(t, forAll(times(n, "b"), "A", p("q", append(taken, b(0))...)), "!"+one+": A. q("+times(n, "b")+", "+one+")")
		for i := range 9 {
			taken = append(taken, v(times(n, "b")+strconv.Itoa(i+1)))
		}
		c := forAll(times(n, "b"), "A", and(p("q", taken[:5]...), and(p("q", taken[5:]...), p("q", b(0)))))
		if s := Claim(c); !strings.HasPrefix(s, "!"+ten+": A. q(b") || !strings.HasSuffix(s, " & q("+ten+")") {
			t.Error(n, quoted(s))
		}
		follow := forAll(times(n, "b"), "A", exists(times(n, "b"), "A", forAll("x", "A", p("q", b(0), b(1), b(2)))))
		followClaim(t, follow)
	}
}

func TestNamesOfBindersFollowTheChapter(t *testing.T) {
	long := times(32, "l")
	binders := []string{"x", "y", "x1", "", "true", "1", "f", "p", long}
	inside := []string{"x", "y", "x1", "x2", "f", long}
	for _, outer := range binders {
		for _, inner := range binders {
			for _, name := range inside {
				for _, other := range inside {
					followClaim(t, forAll(outer, "A", exists(inner, "B", p("p", b(0), b(1), v(name), app(other, b(0))))))
					followClaim(t, imp(forAll(outer, "A", p(name, b(0))), exists(inner, "B", not(eq(b(0), app(other))))))
					followClaim(t, or(p(name), forAll(outer, "A", and(exists(inner, "B", eq(b(0), b(1))), forAll(outer, "A", eq(b(1), v(other)))))))
				}
			}
		}
	}
}

// Promise 14.4.

func TestVar(t *testing.T) {
	checkVar(t, api.Var{Name: "x", Sort: "A"}, "x: A")
	checkVar(t, api.Var{Name: "i'", Sort: "Int"}, "i': Int")
	checkVar(t, api.Var{}, ": ")
	checkVar(t, api.Var{Name: "true", Sort: "Bool"}, "true: Bool")
	checkVar(t, api.Var{Name: "\xff: ", Sort: "\n"}, "\xff: : \n")
	for _, name := range append(someNames(), wrongNames()...) {
		checkVar(t, api.Var{Name: name, Sort: "A"}, name+": A")
		checkVar(t, api.Var{Name: "A", Sort: name}, "A: "+name)
	}
}

func TestFun(t *testing.T) {
	for want, f := range map[string]api.Fun{
		"pred r":                      fn("r", "", "Bool"),
		"pred p: A":                   fn("p", "A", "Bool"),
		"pred q: A, Int":              fn("q", "A Int", "Bool"),
		"pred q: A, B, A":             fn("q", "A B A", "Bool"),
		"fun c: A":                    fn("c", "", "A"),
		"fun i: Int":                  fn("i", "", "Int"),
		"fun f: A -> A":               fn("f", "A", "A"),
		"fun f: A, B -> C":            fn("f", "A B", "C"),
		"fun g: A, B, Int, A -> Int":  fn("g", "A B Int A", "Int"),
		"fun h: A, A, A, A, A, A -> ": fn("h", "A A A A A A", ""),
		"fun : ":                      {},
		"fun f: bool":                 fn("f", "", "bool"),
		"fun f: Bool -> Bools":        fn("f", "Bool", "Bools"),
		"pred f: Bool":                fn("f", "Bool", "Bool"),
		"pred Bool":                   fn("Bool", "", "Bool"),
		"fun f:  -> A":                {Name: "f", Args: []api.Sort{""}, Res: "A"},
		"pred f: ":                    {Name: "f", Args: []api.Sort{""}, Res: "Bool"},
		"pred f: , , ->":              {Name: "f", Args: []api.Sort{"", "", "->"}, Res: "Bool"},
	} {
		checkFun(t, f, want)
	}
	for _, name := range append(someNames(), wrongNames()...) {
		checkFun(t, api.Fun{Name: name, Res: "A"}, "fun "+name+": A")
		checkFun(t, api.Fun{Name: name, Args: []api.Sort{name, "A", name}, Res: "Bool"}, "pred "+name+": "+name+", A, "+name)
		checkFun(t, api.Fun{Name: "f", Args: []api.Sort{"A", name}, Res: "C"}, "fun f: A, "+name+" -> C")
		if name != "Bool" {
			checkFun(t, api.Fun{Name: "f", Res: name}, "fun f: "+name)
		}
	}
	checkFun(t, api.Fun{Name: "f", Args: []api.Sort{}, Res: "Bool"}, "pred f")
	checkFun(t, api.Fun{Name: "f", Args: []api.Sort{}, Res: "A"}, "fun f: A")
	checkFun(t, api.Fun{Name: "f", Args: slices.Repeat([]api.Sort{"A"}, 1<<16), Res: "A"}, "fun f: A"+times(1<<16-1, ", A")+" -> A")
}

func TestSeq(t *testing.T) {
	r, q := p("r"), p("q", v("x"))
	all := forAll("x", "A", p("q", b(0)))
	for _, x := range []struct {
		seq  api.Seq
		want string
	}{
		{api.Seq{Goal: r}, "|- r\n"},
		{api.Seq{Vars: free("x A"), Goal: q}, "x: A\n|- q(x)\n"},
		{api.Seq{Vars: free("x A, y B, i Int"), Goal: not(imp(r, q))}, "x: A\ny: B\ni: Int\n|- ~(r -> q(x))\n"},
		{api.Seq{Hyps: []api.Hyp{{Name: "h", Claim: r}}, Goal: r}, "h: r\n|- r\n"},
		{api.Seq{Hyps: []api.Hyp{{Name: "h", Claim: imp(r, q)}, {Name: "h1", Claim: all}, {Name: "a'", Claim: eq(v("x"), num(-1))}}, Goal: truth()}, "h: r -> q(x)\nh1: !x: A. q(x)\na': x = -1\n|- true\n"},
		{api.Seq{Vars: free("x A, i Int"), Hyps: []api.Hyp{{Name: "h", Claim: and(q, all)}, {Name: "g", Claim: all}}, Goal: and(all, r)}, "x: A\ni: Int\nh: q(x) & !x1: A. q(x1)\ng: !x: A. q(x)\n|- (!x: A. q(x)) & r\n"},
		{api.Seq{Vars: []api.Var{{}, {Name: "x", Sort: "A"}, {Name: "x", Sort: "A"}}, Hyps: []api.Hyp{{Claim: r}, {Name: "true", Claim: r}, {Name: "true", Claim: r}}, Goal: p("q", b(3))}, ": \nx: A\nx: A\n: r\ntrue: r\ntrue: r\n|- q('3)\n"},
		{api.Seq{Vars: []api.Var{}, Hyps: []api.Hyp{}, Goal: iff(all, all)}, "|- (!x: A. q(x)) <-> !x: A. q(x)\n"},
	} {
		checkSeq(t, x.seq, x.want)
	}
}

// Whatever its parts are, a sequent has a line for each of them.
func TestSeqOfManyParts(t *testing.T) {
	for _, n := range []int{0, 1, 2, 255, 256, 257, 1 << 16} {
		for _, m := range []int{0, 1, 300} {
			s := api.Seq{Vars: slices.Repeat(free("x A"), n), Hyps: slices.Repeat([]api.Hyp{{Name: "h", Claim: p("r")}}, m), Goal: p("s")}
			checkSeq(t, s, times(n, "x: A\n")+times(m, "h: r\n")+"|- s\n")
			s.Vars, s.Hyps = s.Vars[:min(m, n)], slices.Repeat(s.Hyps[:min(m, 1)], n)
			checkSeq(t, s, times(min(m, n), "x: A\n")+times(n*min(m, 1), "h: r\n")+"|- s\n")
		}
	}
	for _, c := range smallClaims()[:400] {
		s := Claim(c)
		checkSeq(t, api.Seq{Vars: free("x A"), Hyps: []api.Hyp{{Name: "h", Claim: c}, {Name: "g", Claim: p("x")}}, Goal: c}, "x: A\nh: "+s+"\ng: x\n|- "+s+"\n")
	}
}

// Promise 14.5.

// pickedClaims are some of the small claims, each also with other names of its binders, some of them with names of variables.
func pickedClaims() []api.Claim {
	var l []api.Claim
	for i, c := range smallClaims() {
		if i < 60 || i%97 == 0 {
			l = append(l, c, sample.Renamed(c, ""), sample.Renamed(c, "y", "x"))
		}
	}
	for _, x := range []api.Term{v("x"), app("x"), v("y"), b(0), b(1), num(1), num(-1), neg(num(1)), mul(-1, num(1)), mul(1, num(-1)), neg(num(-1)), sub(num(0), num(1)), app("x", v("y")), app("x", app("y"))} {
		for _, name := range []string{"x", "y", "", "x1"} {
			l = append(l, eq(x, x), p("x", x), forAll(name, "A", p("q", x)), exists(name, "A", p("q", x)), forAll(name, "B", p("q", x)), and(p("x"), forAll(name, "A", p("q", x))))
		}
	}
	return l
}

// What may be read as the same has the same text, and nothing else has.
func TestSameTexts(t *testing.T) {
	found := map[bool]int{}
	terms := slices.Concat([]api.Term{app("x"), v("c"), app("f", app("y")), neg(v("c")), add(app("x"), v("c"))}, smallTerms())
	shown, asRead := texts(terms, Term), texts(terms, plainTerm)
	for i := range terms {
		for j := range 300 {
			same := shown[i] == shown[j]
			if found[same]++; same != sample.EqualTerms(asRead[i], asRead[j]) {
				t.Errorf("%s and %s: %s and %s", termText(terms[i]), termText(terms[j]), shown[i], shown[j])
			}
		}
	}
	claims := pickedClaims()
	shown, read := texts(claims, Claim), texts(claims, plain)
	for i := range claims {
		for j := range claims {
			same := shown[i] == shown[j]
			if found[same]++; same != sample.EqualClaims(read[i], read[j]) {
				t.Errorf("%s and %s: %s and %s", text(claims[i]), text(claims[j]), shown[i], shown[j])
			}
		}
	}
	if min(found[true], found[false]) < 2500 {
		t.Error("too few of a kind:", found)
	}
}

// texts are what f makes of the elements of l.
func texts[S, T any](l []S, f func(S) T) []T {
	var r []T
	for _, x := range l {
		r = append(r, f(x))
	}
	return r
}

// The names of binders make no difference to what is read.
func TestOtherNamesOfBinders(t *testing.T) {
	for _, c := range pickedClaims() {
		for _, d := range []api.Claim{sample.Renamed(c, "x"), sample.Renamed(c, "true", "q"), sample.Renamed(c, "q", "", "x1"), sample.Renamed(c, times(32, "a"))} {
			a, ok := readClaim(Claim(c))
			b, also := readClaim(Claim(d))
			if !ok || !also || !claim.Same(a, b) {
				t.Errorf("%s and %s are not read as the same", Claim(c), Claim(d))
			}
		}
	}
}

// Every bracket that opens is closed, and none is closed that did not open.
func TestBrackets(t *testing.T) {
	check := func(s string) {
		open := 0
		for _, c := range s {
			switch c {
			case '(':
				open++
			case ')':
				open--
			}
			if open < 0 {
				break
			}
		}
		if open != 0 {
			t.Error(quoted(s))
		}
	}
	for _, x := range smallTerms() {
		check(Term(x))
	}
	for _, c := range smallClaims() {
		check(Claim(c))
	}
}

// Without a pair of parentheses that is not a function's or a number's, a text is read as something else, or not at all.
func TestParenthesesAreNeeded(t *testing.T) {
	pairs := 0
	without := func(s string, reads func(s string) bool) {
		for from := range s {
			to := closing(s, from)
			_, e := strconv.Atoi(s[from+1 : max(to, from+1)])
			if s[from] != '(' || e == nil || from > 0 && strings.ContainsAny(s[from-1:from], "fgpqx") {
				continue
			}
			pairs++
			if less := s[:from] + s[from+1:to] + s[to+1:]; reads(less) {
				t.Errorf("%s instead of %s", quoted(s), quoted(less))
			}
		}
	}
	for _, x := range smallTerms() {
		without(Term(x), func(s string) bool { return isTerm(s, plainTerm(x)) })
	}
	for _, c := range smallClaims() {
		without(Claim(c), func(s string) bool { return isClaim(s, plain(c)) })
	}
	if pairs < 10000 {
		t.Error("too few:", pairs)
	}
}

// closing is where the parenthesis is closed that opens there.
func closing(s string, from int) int {
	open := 0
	for i := from; i < len(s); i++ {
		switch s[i] {
		case '(':
			open++
		case ')':
			open--
		}
		if open == 0 {
			return i
		}
	}
	return len(s)
}

// What no promise gives a text.

// wrongClaims are claims that are not right.
func wrongClaims() []api.Claim {
	r := p("r")
	l := []api.Claim{{}, {Op: -1}, {Op: 13}, {Op: least}, {Op: greatest}, {Op: 1<<32 + 7}, sample.Nots(64, r), sample.Nots(1<<16, r), sample.SizedClaim(4097), sample.Heavy(4097)}
	for op := range 14 {
		for n := range 4 {
			c := made(op, slices.Repeat([]api.Claim{r}, n)...)
			l = append(l, c, withTerms(c, sample.Vars(n, "x")...), api.Claim{Op: op, Name: "x", Sort: "A", Subs: c.Subs}, withTerms(made(op), sample.Vars(n+1, "x")...))
		}
	}
	for _, x := range wrongTerms() {
		l = append(l, p("p", x), not(eq(v("x"), x)), forAll("x", "A", le(x, b(0))))
	}
	l = append(l, withSubs(p("p", v("x")), r), p("p", sample.Vars(9, "x")...), p("p", b(-1)), forAll("x", "A", p("p", b(least))))
	return slices.DeleteFunc(l, func(c api.Claim) bool { return claim.Right(c) == 0 })
}

// Ours is empty, and the calls end.
func TestWrongParts(t *testing.T) {
	var terms []api.Term
	for _, x := range wrongTerms() {
		terms = append(terms, x, add(v("x"), x), app("f", neg(x)))
	}
	for _, hull := range sample.Hulls() {
		terms = append(terms, hull(v("x")), hull(withArgs(num(1))))
	}
	terms = append(terms, api.Term{}, b(-1), neg(b(least)), withArgs(v("x"), v("y")), withArgs(num(3), num(4)), withArgs(add(v("x"), v("y"))), sample.Chain(1<<16, v("x")), sample.Nested(1<<16, b(0), neg), sample.SizedTerm(4097), app("f", sample.Vars(9, "x")...))
	for _, x := range terms {
		if term.Right(x) != 0 {
			check(t, func() string { return Term(x) }, "", sample.Terms(x))
		}
	}
	for _, c := range wrongClaims() {
		checkClaim(t, c, "")
		checkSeq(t, api.Seq{Vars: free("x A"), Hyps: []api.Hyp{{Name: "h", Claim: c}, {Name: "g", Claim: p("r")}}, Goal: c}, "x: A\nh: \ng: r\n|- \n")
	}
	for _, wrap := range []func(api.Claim) api.Claim{
		func(c api.Claim) api.Claim { return forAll("x", "A", c) },
		func(c api.Claim) api.Claim { return and(exists("true", "A", c), p("r")) },
		func(c api.Claim) api.Claim { return imp(p("r"), c) },
	} {
		checkClaim(t, sample.Nested(1<<16, p("q", b(0)), wrap), "")
	}
}

// Parts that share memory are more than could ever be printed, and those that lie within themselves never end.
func TestPartsThatShareMemory(t *testing.T) {
	x, c := v("x"), p("r")
	for d := 1; d < 70; d++ {
		s := Seq(api.Seq{Hyps: []api.Hyp{{Name: "h", Claim: c}}, Goal: eq(x, x)})
		if d > 12 && (Term(x) != "" || Claim(c) != "" || s != "h: \n|- \n") || d < 9 && strings.Count(s, "r")+strings.Count(s, "x") != 3<<(d-1) {
			t.Error(d, quoted(s))
		}
		x, c = add(x, x), and(c, c)
	}
	args, subs := make([]api.Term, 1), make([]api.Claim, 1)
	args[0], subs[0] = neg(v("x")), not(p("r"))
	args[0].Args, subs[0].Subs = args, subs
	if Term(args[0]) != "" || Claim(subs[0]) != "" || Claim(p("p", args[0])) != "" || Seq(api.Seq{Goal: subs[0]}) != "|- \n" {
		t.Error(quoted(Term(args[0])), quoted(Claim(subs[0])))
	}
}

// A right claim may have some hundred names and binders.
func TestManyBinders(t *testing.T) {
	var l []api.Claim
	for i := range 512 {
		l = append(l, forAll("x", "A", p("q", v("x"), v("x"+strconv.Itoa(i+1)), b(0))))
	}
	for len(l) > 1 {
		var pairs []api.Claim
		for i := 0; i < len(l); i += 2 {
			pairs = append(pairs, or(l[i], l[i+1]))
		}
		l = pairs
	}
	c := imp(p("r"), l[0])
	s := Claim(c)
	for i := range 512 {
		if want := "!x513: A. q(x, x" + strconv.Itoa(i+1) + ", x513)"; strings.Count(s, want) != 1 {
			t.Error(want, "does not stand in", quoted(s))
		}
	}
	if !isClaim(s, plain(c)) {
		t.Error(quoted(s))
	}
}

// scatteredTerm is a right term of at most that depth.
func scatteredTerm(next func(n int) int, depth int) api.Term {
	op := 1 + next(8)
	if depth == 1 {
		op = 1 + op%4
	}
	name := []string{"x", "y", "x1", "f"}[next(4)]
	n := []int64{0, 1, 2, 3, 10, -1, -2, greatest, least}[next(9)]
	part := func() api.Term { return scatteredTerm(next, depth-1) }
	switch op {
	case 1:
		return v(name)
	case 2:
		return b(int64(next(4)))
	case 3:
		var l []api.Term
		for range next(min(depth, 4)) {
			l = append(l, part())
		}
		return app(name, l...)
	case 4:
		return num(n)
	case 5:
		return add(part(), part())
	case 6:
		return sub(part(), part())
	case 7:
		return neg(part())
	}
	return mul(n, part())
}

// scatteredClaim is a right claim of at most that depth.
func scatteredClaim(next func(n int) int, depth int) api.Claim {
	op := 1 + next(16)
	if depth == 1 {
		op = 1 + op%5
	}
	name := []string{"x", "y", "x1", "p", "", "true", "r"}[next(7)]
	part := func() api.Claim { return scatteredClaim(next, depth-1) }
	switch op {
	case 1, 2:
		return made(op)
	case 3:
		return p([]string{"p", "x", "r"}[next(3)], []api.Term{scatteredTerm(next, 2), b(0)}[:next(3)]...)
	case 4, 5:
		return api.Claim{Op: op, Terms: []api.Term{scatteredTerm(next, 2), scatteredTerm(next, 1)}}
	case 6:
		return not(part())
	case 7, 8, 9, 10:
		return made(op, part(), part())
	}
	return api.Claim{Op: 11 + op%2, Name: name, Sort: []api.Sort{"A", "Int"}[next(2)], Subs: []api.Claim{part()}}
}
