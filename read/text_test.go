package read

import (
	"slices"
	"strings"
	"testing"

	"sequitur/api"
	"sequitur/claim"
	"sequitur/sample"
	"sequitur/show"
	"sequitur/term"
	"sequitur/well"
)

// usual is a signature with functions and predicates of each number of Args up to two.
func usual() api.Sign {
	return sg("A B", fn("c", "", "A"), fn("d", "", "B"), fn("k", "", "Int"), fn("f", "A", "A"), fn("g", "A Int", "A"), fn("h", "Int", "Int"), fn("m", "B A", "Int"), fn("r", "", "Bool"), fn("s", "", "Bool"), fn("p", "A", "Bool"), fn("q", "Int B", "Bool"))
}

func vars() []api.Var { return free("x A, y B, i Int, j Int") }

// Promise 15.2.

func TestSettle(t *testing.T) {
	s, l := usual(), vars()
	for name, settles := range map[string]bool{"c": true, "d": true, "k": true, "r": true, "s": true, "f": false, "g": false, "p": false, "q": false, "x": false, "i": false, "z": false, "": false, "A": false, "true": false} {
		x, y := v(name), v(name)
		if settles {
			y = app(name)
		}
		for _, hull := range sample.Hulls() {
			checkSettleTerm(t, s, l, hull(x), wantSettled(s, l, hull(x)))
		}
		for _, hull := range sample.RightHulls() {
			checkSettleTerm(t, s, l, hull(x), hull(y))
			for _, around := range claimsAround() {
				checkSettle(t, s, l, around(hull(x)), around(hull(y)))
			}
		}
		checkSettleTerm(t, s, l, x, y)
		// A variable is none.
		checkSettleTerm(t, s, append(l, api.Var{Name: name}), x, x)
		checkSettleTerm(t, s, append([]api.Var{{Name: name, Sort: "Bool"}}, l...), x, x)
		checkSettleTerm(t, api.Sign{Sorts: s.Sorts}, l, x, x)
		checkSettleTerm(t, s, nil, x, y)
		// Of two functions the first one counts.
		checkSettleTerm(t, sg("", fn(name, "A", "A"), fn(name, "", "A")), nil, x, x)
		checkSettleTerm(t, sg("", fn("u", "", "A"), fn(name, "", "C"), fn(name, "A", "A")), nil, x, app(name))
		for _, other := range []api.Term{b(0), b(1), num(0), app(name), app(name, num(1)), {Op: 2, Name: name}, {Op: 0, Name: name}, {Op: 9, Name: name}, {Op: -1, Name: name}, {Op: 1<<32 + 1, Name: name}} {
			checkSettleTerm(t, s, l, other, other)
		}
		checkSettle(t, s, l, p(name), p(name))
		checkSettle(t, s, l, forAll(name, name, p(name, b(0), x)), forAll(name, name, p(name, b(0), y)))
		checkSettle(t, s, l, exists(name, "A", eq(x, b(0))), exists(name, "A", eq(y, b(0))))
	}
}

// claimsAround put a term into claims.
func claimsAround() []func(x api.Term) api.Claim {
	return []func(x api.Term) api.Claim{
		func(x api.Term) api.Claim { return p("p", x) },
		func(x api.Term) api.Claim { return eq(x, v("z")) },
		func(x api.Term) api.Claim { return le(num(1), x) },
		func(x api.Term) api.Claim { return not(and(p("p", x), or(eq(x, x), truth()))) },
		func(x api.Term) api.Claim {
			return forAll("u", "A", exists("w", "B", imp(p("p", b(0), x), iff(le(x, b(1)), falsity()))))
		},
		func(x api.Term) api.Claim { return withTerms(made(0, withTerms(made(77, p("p", x)), x)), b(0), x) },
		func(x api.Term) api.Claim { return withTerms(not(withTerms(truth(), x)), x, x) },
	}
}

// What is wrong about a variable is dropped with it, or stays.
func TestSettleWrongParts(t *testing.T) {
	s := usual()
	odd := api.Term{Op: 1, Name: "c", Num: 7, Args: []api.Term{v("c"), v("x")}}
	checkSettleTerm(t, s, nil, odd, app("c"))
	kept := api.Term{Op: 1, Name: "c", Num: 7, Args: []api.Term{v("c"), app("d")}}
	checkSettleTerm(t, s, free("c A"), kept, kept)
	kept.Args[1] = v("d")
	checkSettleTerm(t, s, free("c A"), kept, api.Term{Op: 1, Name: "c", Num: 7, Args: []api.Term{v("c"), app("d")}})
	for _, hull := range sample.Hulls() {
		checkSettleTerm(t, s, nil, hull(odd), hull(app("c")))
		checkSettleTerm(t, s, nil, hull(hull(v("d"))), hull(hull(app("d"))))
	}
	var whole api.Claim
	whole.Op, whole.Name, whole.Sort = 99, "c", "d"
	whole.Terms = []api.Term{v("c"), {}, {Op: 1}}
	whole.Subs = []api.Claim{p("c", v("c")), {}, {Terms: []api.Term{v("x"), v("d")}}}
	checkSettle(t, s, nil, whole, wantSettledClaim(s, nil, whole))
	for _, x := range sample.WrongTerms() {
		checkSettleTerm(t, s, free("x A"), x, x)
		checkSettleTerm(t, sg("", fn("x", "", "A")), nil, x, wantSettled(sg("", fn("x", "", "A")), nil, x))
	}
	deep := sample.Chain(1<<16-1, v("c"))
	checkSettleTerm(t, s, nil, deep, sample.Chain(1<<16-1, app("c")))
	checkSettle(t, s, nil, sample.Nots(1<<16-1, p("p", v("c"))), sample.Nots(1<<16-1, p("p", app("c"))))
}

// All small lists of variables and functions.
func TestSettleFollowsTheChapter(t *testing.T) {
	var signs []api.Sign
	funs := []api.Fun{fn("a", "", "A"), fn("a", "A", "A"), fn("b", "", "Bool"), fn("b", "Int Int", "Bool"), fn("", "", "")}
	for _, f := range funs {
		signs = append(signs, sg("A", f))
		for _, g := range funs {
			signs = append(signs, sg("", f, g), sg("a b", f, g, f))
		}
	}
	lists := [][]api.Var{nil, {}, free("a A"), free("b A"), free("a A, b A"), free("b B, a , a Int"), {{}}, {{Sort: "a"}}}
	var terms []api.Term
	for _, name := range []string{"a", "b", ""} {
		terms = append(terms, v(name), app(name), app(name, v(name)), withArgs(v(name), v("a"), v("b")), app("g", v("a"), v(name), v("b")), add(neg(v(name)), mul(2, v("a"))))
	}
	for _, s := range append(signs, api.Sign{}) {
		for _, l := range lists {
			for _, x := range terms {
				checkSettleTerm(t, s, l, x, wantSettled(s, l, x))
				c := and(p("a", x), forAll("a", "A", eq(x, b(0))))
				checkSettle(t, s, l, c, wantSettledClaim(s, l, c))
			}
		}
	}
}

// Neither what Settle answers nor what it was given may change the other.
func TestSettleKeepsNothing(t *testing.T) {
	s, l := usual(), vars()
	c := forAll("u", "A", and(p("p", app("f", v("c")), v("x")), eq(add(v("k"), num(1)), b(0))))
	if said := sample.Tied(func() sample.Data { return sample.Claims(Settle(s, l, c)) }, sample.Claims(c)); said != "" {
		t.Error(said)
	}
	x := app("g", v("c"), neg(v("k")), app("f"))
	if said := sample.Tied(func() sample.Data { return sample.Terms(SettleTerm(s, l, x)) }, sample.Terms(x)); said != "" {
		t.Error(said)
	}
}

// Promise 15.3.

func TestTerm(t *testing.T) {
	s, l := usual(), vars()
	x, c := v("x"), app("c")
	for text, want := range map[string]api.Term{
		"x": x, "c": c, "k": app("k"), "f(c)": app("f", c), "f(f(x))": app("f", app("f", x)), "g(c, i + k)": app("g", c, add(v("i"), app("k"))), "m(d, f(c)) * 2": mul(2, app("m", app("d"), app("f", c))), "-k - -3": sub(neg(app("k")), num(-3)), "(((c)))": c, "7": num(7),
		" x ": x, "\n\tx # y\n": x, "# c\nx": x, "f#\n(#\nx#\n)#": app("f", x), "i+-3*k": add(v("i"), mul(-3, app("k"))),
	} {
		checkTerm(t, s, l, text, want, 0, 0)
	}
	checkTerm(t, s, free("c A"), "f(c)", app("f", v("c")), 0, 0)
	checkTerm(t, s, free("k A"), "f(k)", app("f", v("k")), 0, 0)
	checkTerm(t, s, nil, "f(x)", api.Term{}, 0, api.ErrName)
	for text, e := range map[string]api.Errno{"z": api.ErrName, "f": api.ErrName, "r": api.ErrName, "p(x)": api.ErrName, "f(z)": api.ErrName, "z(x)": api.ErrName, "c(x)": api.ErrArity, "f(x, x)": api.ErrArity, "f(f)": api.ErrName, "g(x)": api.ErrArity, "f(i)": api.ErrSort, "f(3)": api.ErrSort, "x + 1": api.ErrSort, "-x": api.ErrSort, "2 * c": api.ErrSort, "m(d, d)": api.ErrSort, "f(x, x, x, x, x, x, x, x, x)": api.ErrArity} {
		checkTerm(t, s, l, text, api.Term{}, 0, e)
		checkTerm(t, s, l, "  ( "+text+" )", api.Term{}, 0, e)
	}
}

func TestClaim(t *testing.T) {
	s, l := usual(), vars()
	c, k := app("c"), app("k")
	for text, want := range map[string]api.Claim{
		"r": p("r"), "p(c)": p("p", c), "p(f(c)) & ~r": and(p("p", app("f", c)), not(p("r"))), "c = x": eq(c, v("x")), "k < i": le(add(k, num(1)), v("i")), "k >= 2 * i": le(mul(2, v("i")), k), "q(k, d)": p("q", k, app("d")), "!c: A. p(c)": forAll("c", "A", p("p", b(0))), "!x: A, k: Int. g(x, k) = c": forAll("x", "A", forAll("k", "Int", eq(app("g", b(1), b(0)), c))), "?u: B. q(m(u, c), d)": exists("u", "B", p("q", app("m", b(0), c), app("d"))),
		"(!c: A. p(c)) & p(c)": and(forAll("c", "A", p("p", b(0))), p("p", c)), "!r: Int. r = k": forAll("r", "Int", eq(b(0), k)), "!Int: Int. Int = i": forAll("Int", "Int", eq(b(0), v("i"))), "\tr#r\n&\r\ns # s": and(p("r"), p("s")), "true": truth(),
	} {
		checkClaim(t, s, l, text, want, 0, 0)
		checkClaim(t, s, l, "("+text+"\n)#", want, 0, 0)
	}
	checkClaim(t, s, free("c B"), "q(1, c)", p("q", num(1), v("c")), 0, 0)
	for text, e := range map[string]api.Errno{"z": api.ErrName, "c": api.ErrName, "x": api.ErrName, "p": api.ErrArity, "r(x)": api.ErrArity, "p(x, x)": api.ErrArity, "p(y)": api.ErrSort, "p(3)": api.ErrSort, "p(z)": api.ErrName, "f(x)": api.ErrName, "p(r)": api.ErrName, "p(p(x))": api.ErrName, "x = y": api.ErrSort, "x <= y": api.ErrSort, "c < c": api.ErrSort, "r = s": api.ErrName, "!u: C. r": api.ErrSort, "!u: Bool. r": api.ErrSort, "!u: true. r": api.ErrSort, "?u: A. q(u, d)": api.ErrSort, "!u: A. p(u) & p(w)": api.ErrName, "!p: A. p(p)": 0, "!f: A. f(f) = f": 0} {
		want := api.Claim{}
		if e == 0 {
			want, _, _ = wantClaim(s, l, text)
		}
		checkClaim(t, s, l, text, want, 0, e)
		checkClaim(t, s, l, " ( "+text+" ) ", want, 0, e)
	}
}

// The error of the tokens comes first, then that of the reading, then what is left over, then what is not well sorted.
func TestOrderOfErrors(t *testing.T) {
	s, l := usual(), vars()
	long := times(33, "x")
	for _, x := range []struct {
		text string // with a mark where the error is
		err  api.Errno
	}{
		{"^$", api.ErrForm}, {"z & & ^$", api.ErrForm}, {"r r ^$", api.ErrForm}, {"007 ^$", api.ErrForm}, {"z ^$ $", api.ErrForm}, {"z ^@ " + long, api.ErrForm}, {"^" + long, api.ErrLong}, {"z & & ^" + long + " $", api.ErrLong}, {"r # $\n^'", api.ErrForm}, {"r ^\x00", api.ErrForm}, {"r &^\xff", api.ErrForm}, {"(r^ä)", api.ErrForm}, {times(70, "~") + "^%", api.ErrForm},
		{"z & ^& 007 r", api.ErrForm}, {"i = ^007 r )", api.ErrForm}, {"i = ^9223372036854775808 r )", api.ErrRange}, {"i = - ^0", api.ErrForm}, {"x ^* y = 1 )", api.ErrForm}, {times(64, "~") + "^~ & )", api.ErrDeep}, {"z & (^) r r", api.ErrForm}, {"z &\n# r\n ^) r", api.ErrForm},
		{"z ^r", api.ErrForm}, {"z # r\n  ^r z", api.ErrForm}, {"p(3) ^)", api.ErrForm}, {"x = y ^= z", api.ErrForm}, {"r ^007", api.ErrForm}, {"r ^9223372036854775808", api.ErrForm},
	} {
		before, after, _ := strings.Cut(x.text, "^")
		checkClaim(t, s, l, before+after, api.Claim{}, len(before), x.err)
	}
	full := "r" + times(api.MaxText-1, " ")
	checkClaim(t, s, l, full, p("r"), 0, 0)
	checkClaim(t, s, l, full+" ", api.Claim{}, 0, api.ErrLong)
	checkClaim(t, s, l, full[:len(full)-1]+"$", api.Claim{}, api.MaxText-1, api.ErrForm)
	checkClaim(t, s, l, full[:len(full)-1]+"r", api.Claim{}, api.MaxText-1, api.ErrForm)
	checkClaim(t, s, l, full+"$", api.Claim{}, 0, api.ErrLong)
	checkClaim(t, s, l, "r &"+times(api.MaxText-3, " "), api.Claim{}, api.MaxText, api.ErrEnd)
	checkTerm(t, s, l, "x"+times(api.MaxText-1, "\n"), v("x"), 0, 0)
	checkTerm(t, s, l, "x"+times(api.MaxText, "\n"), api.Term{}, 0, api.ErrLong)
	checkTerm(t, s, l, "x +"+times(api.MaxText-3, "\n"), api.Term{}, api.MaxText, api.ErrEnd)
}

// What may be read may still be too deep or too long to be right.
func TestLimits(t *testing.T) {
	s, l := usual(), vars()
	sum := func(n int) string { return times(n-1, "i + ") + "i" }
	many := func(n int) string { return strings.TrimSuffix(times(n, sum(64)+" = i & "), " & ") }
	for n, e := range map[int]api.Errno{1: 0, 63: 0, 64: 0, 65: api.ErrDeep, 2000: api.ErrDeep, 16000: api.ErrDeep} {
		want, _, _ := wantTerm(s, l, sum(min(n, 64)))
		if e != 0 {
			want = api.Term{}
		}
		checkTerm(t, s, l, sum(n), want, 0, e)
	}
	checkTerm(t, s, l, times(63, "-")+"k", sample.Nested(63, app("k"), neg), 0, 0)
	checkTerm(t, s, l, times(64, "-")+"k", api.Term{}, 0, api.ErrDeep)
	checkTerm(t, s, l, times(65, "-")+"k", api.Term{}, 64, api.ErrDeep)
	checkTerm(t, s, l, times(63, "f(")+"c"+times(63, ")"), sample.Chain(63, app("c")), 0, 0)
	checkTerm(t, s, l, times(64, "f(")+"c"+times(64, ")"), api.Term{}, 0, api.ErrDeep)
	checkTerm(t, s, l, times(65, "f(")+"c"+times(65, ")"), api.Term{}, 129, api.ErrDeep)
	checkClaim(t, s, l, times(63, "~")+"r", sample.Nots(63, p("r")), 0, 0)
	checkClaim(t, s, l, times(64, "~")+"r", api.Claim{}, 0, api.ErrDeep)
	checkClaim(t, s, l, times(65, "~")+"r", api.Claim{}, 64, api.ErrDeep)
	checkClaim(t, s, l, times(64, "(")+"r"+times(64, ")"), p("r"), 0, 0)
	checkClaim(t, s, l, times(65, "( ")+"r"+times(65, ")"), api.Claim{}, 128, api.ErrDeep)
	checkClaim(t, s, l, times(64, "!u: A. ")+"r", api.Claim{}, 0, api.ErrDeep)
	for n, e := range map[int]api.Errno{30: 0, 31: 0, 32: api.ErrLong, 60: api.ErrLong} {
		want, _, _ := wantClaim(s, l, many(min(n, 31)))
		if e != 0 {
			want = api.Claim{}
		}
		checkClaim(t, s, l, many(n), want, 0, e)
	}
	wide := sample.SizedTerm(4096)
	text := strings.ReplaceAll(show.Term(wide), "f", "w")
	big := sg("A", fn("w", times(8, "A "), "A"))
	if _, at, e := Term(big, free("x A"), text); at != 0 || e != api.ErrArity {
		t.Error(at, e)
	}
	got, at, e := TermAt(tokens(show.Term(wide)), 0)
	if !sample.EqualTerms(got, wide) || at != len(tokens(show.Term(wide))) || e != 0 {
		t.Error("a wide term:", at, e)
	}
	flat := "w(" + times(7, "x, ") + "x)"
	checkTerm(t, big, free("x A"), flat, app("w", sample.Vars(8, "x")...), 0, 0)
	checkTerm(t, big, free("x A"), "w("+times(8, "x, ")+"x)", api.Term{}, 0, api.ErrArity)
}

// pieces are what texts may be made of.
func pieces() []string {
	return strings.Fields("x y i j c d k f( g( h( m( r s p( q( r r p( ( ( ) ) ) , , + - - * = = <= < > >= & | -> <-> ~ !u: ?w: A. A, B. Int. u w u w 0 1 2 -3 007 9223372036854775808 true false qed z x1 $ #x := ] :")
}

func TestTextsFollowTheChapter(t *testing.T) {
	next := sample.Scattered(7046029254386353131)
	all := pieces()
	for range 4000 {
		text := ""
		for range 1 + next(12) {
			text += all[next(len(all))] + []string{" ", "", "  ", "\n", "\t", "#&\n"}[next(6)]
		}
		followText(t, usual(), vars(), text)
	}
	for _, x := range sortedClaims(next, 1500) {
		text := show.Claim(x)
		at, n := next(len(text)), next(3)
		n = min(n, len(text)-at)
		followText(t, usual(), vars(), text[:at]+[]string{"", " ", all[next(len(all))], "(", ")"}[next(5)]+text[at+n:])
		followText(t, usual(), vars(), text[:at])
	}
}

// Signatures and variables may be anything.
func TestOddSettings(t *testing.T) {
	twice := sg("A A", fn("c", "", "A"), fn("c", "A", "B"), fn("x", "", "A"), fn("true", "", "Bool"), fn("", "", "A"), fn("p", "Bool", "Bool"), fn("A", "", "Bool"), fn("w", "A A A A A A A A A", "Bool"))
	odd := []api.Var{{}, {Name: "x", Sort: "Bool"}, {Name: "x", Sort: "A"}, {Name: "i", Sort: "Int"}, {Name: "true", Sort: "A"}, {Name: "c d", Sort: "A"}}
	for _, text := range []string{"x", "c", "p(x)", "x = x", "c = x", "c(c)", "i = 1", "i < c", "A", "!x: A. A & c = x", "true", "x = y", "!u: B. c = c", "w(x, x, x, x, x, x, x, x, x)", ""} {
		for _, s := range []api.Sign{{}, usual(), twice, {Funs: []api.Fun{{}}}, {Sorts: []api.Sort{"", "Int"}}} {
			for _, l := range [][]api.Var{nil, {}, vars(), odd} {
				followText(t, s, l, text)
			}
		}
	}
}

// Promise 15.4.

// sorted makes well sorted parts within binders.
type sorted struct {
	next    func(n int) int
	binders []api.Sort // the innermost last
}

func (g *sorted) pick(l ...api.Term) api.Term { return l[g.next(len(l))] }

// term is a term of that sort, at most so deep.
func (g *sorted) term(of api.Sort, depth int) api.Term {
	var bound []api.Term
	for i, s := range g.binders {
		if s == of {
			bound = append(bound, b(int64(len(g.binders)-1-i)))
		}
	}
	if len(bound) > 0 && g.next(3) == 0 {
		return g.pick(bound...)
	}
	n := []int64{0, 1, 2, 3, 10, -1, -2, greatest, least}[g.next(9)]
	leaves := map[api.Sort][]api.Term{"A": {v("x"), app("c")}, "B": {v("y"), app("d")}, "Int": {v("i"), v("j"), app("k"), num(n), num(n)}}[of]
	if depth == 1 || of == "B" || g.next(4) == 0 {
		return g.pick(leaves...)
	}
	part := func(of api.Sort) api.Term { return g.term(of, depth-1) }
	if of == "A" {
		if g.next(2) == 0 {
			return app("f", part("A"))
		}
		return app("g", part("A"), part("Int"))
	}
	switch g.next(6) {
	case 0:
		return add(part("Int"), part("Int"))
	case 1:
		return sub(part("Int"), part("Int"))
	case 2:
		return neg(part("Int"))
	case 3:
		return mul(n, part("Int"))
	case 4:
		return app("h", part("Int"))
	}
	return app("m", part("B"), part("A"))
}

// claim is a claim at most so deep, whose terms are at most inner deep.
func (g *sorted) claim(depth, inner int) api.Claim {
	op := 1 + g.next(14)
	if depth == 1 {
		op = 1 + op%7
	}
	part := func() api.Claim { return g.claim(depth-1, inner) }
	switch {
	case op <= 2:
		return made(op)
	case op == 3 || depth == 1 && op > 5:
		return []api.Claim{p("r"), p("s"), p("p", g.term("A", inner)), p("q", g.term("Int", inner), g.term("B", inner))}[g.next(4)]
	case op == 4:
		of := []api.Sort{"A", "B", "Int"}[g.next(3)]
		return eq(g.term(of, inner), g.term(of, inner))
	case op == 5:
		return le(g.term("Int", inner), g.term("Int", inner))
	case op == 6:
		return not(part())
	case op <= 10:
		return made(op, part(), part())
	}
	name := []string{"x", "y", "i", "c", "f", "p", "u", "u", "", "true", "A", "Int", "x1", times(32, "x"), "1", times(33, "y")}[g.next(16)]
	of := []api.Sort{"A", "B", "Int"}[g.next(3)]
	g.binders = append(g.binders, of)
	c := api.Claim{Op: 11 + g.next(2), Name: name, Sort: of, Subs: []api.Claim{part()}}
	g.binders = g.binders[:len(g.binders)-1]
	return c
}

// sortedClaims are n well sorted claims.
func sortedClaims(next func(n int) int, n int) []api.Claim {
	var l []api.Claim
	for range n {
		g := sorted{next: next}
		depth := 1 + next(7)
		l = append(l, g.claim(depth, 1+next(5)))
	}
	return l
}

// checkRoundTrip holds what is read of the text of a claim against the claim.
func checkRoundTrip(t *testing.T, c api.Claim) {
	t.Helper()
	if _, e := well.Claim(usual(), vars(), c); e != 0 {
		t.Fatal("not well sorted:", sample.ClaimText(c), e)
	}
	text := show.Claim(c)
	got, at, e := Claim(usual(), vars(), text)
	if !claim.Same(got, c) || at != 0 || e != 0 || show.Claim(got) != text {
		t.Errorf("%s is read as %s at %d, %d; want %s", quoted(text), sample.ClaimText(got), at, e, sample.ClaimText(c))
	}
	follow, at, e := wantClaim(usual(), vars(), text)
	if !sample.EqualClaims(got, follow) || at != 0 || e != 0 {
		t.Errorf("%s is read as %s; want %s", quoted(text), sample.ClaimText(got), sample.ClaimText(follow))
	}
}

func TestRoundTrip(t *testing.T) {
	next := sample.Scattered(6364136223846793005)
	for _, c := range sortedClaims(next, 6000) {
		checkRoundTrip(t, c)
	}
	for range 4000 {
		g := sorted{next: next}
		of := []api.Sort{"A", "B", "Int"}[next(3)]
		x := g.term(of, 1+next(7))
		text := show.Term(x)
		got, at, e := Term(usual(), vars(), text)
		if !term.Same(got, x) || at != 0 || e != 0 {
			t.Errorf("%s is read as %s at %d, %d; want %s", quoted(text), sample.TermText(got), at, e, sample.TermText(x))
		}
	}
}

// deepClaim is a claim with so many levels, around terms with so many levels, each of any kind.
func deepClaim(next func(n int) int, levels, inner int) api.Claim {
	x := []api.Term{num(3), num(-3), app("k"), v("i"), num(least)}[next(5)]
	for range inner - 1 {
		other := []api.Term{num(-1), v("j")}[next(2)]
		x = []api.Term{neg(x), add(x, other), add(other, x), sub(x, other), sub(other, x), mul(-2, x), mul(2, x), app("h", x), app("m", app("d"), x)}[next(8)]
	}
	c := []api.Claim{eq(x, x), le(x, num(1)), le(num(-1), x), p("q", x, v("y"))}[next(4)]
	for range levels - 1 {
		r := []api.Claim{p("r"), falsity(), eq(v("x"), app("c"))}[next(3)]
		c = []api.Claim{not(c), and(c, r), and(r, c), or(c, r), or(r, c), imp(c, r), imp(r, c), iff(c, r), iff(r, c), forAll("x", "A", c), exists("i", "Int", c), forAll("u", "B", c)}[next(12)]
	}
	return c
}

// Twice the depth of the claim and twice that of its terms are at most 60.
func TestDeepRoundTrip(t *testing.T) {
	next := sample.Scattered(1442695040888963407)
	for range 1500 {
		levels := 1 + next(29)
		c := deepClaim(next, levels, 30-levels)
		if deepest := slices.MaxFunc(claim.Terms(c), func(a, b api.Term) int { return term.Depth(a) - term.Depth(b) }); claim.Depth(c) != levels || term.Depth(deepest) != 30-levels {
			t.Fatal(levels, sample.ClaimText(c))
		}
		checkRoundTrip(t, c)
	}
	for _, c := range []api.Claim{
		sample.Nested(29, p("r"), func(c api.Claim) api.Claim { return not(and(c, p("s"))) }),
		sample.Nested(31, p("r"), func(c api.Claim) api.Claim { return not(and(c, p("s"))) }),
		sample.Nested(62, p("r"), not), sample.Nested(63, p("r"), not), sample.Nested(63, p("r"), func(c api.Claim) api.Claim { return iff(p("s"), c) }), sample.Nested(63, p("r"), func(c api.Claim) api.Claim { return imp(c, p("s")) }), sample.Nested(63, p("r"), func(c api.Claim) api.Claim { return exists("x", "A", c) }),
	} {
		checkRoundTrip(t, c)
	}
	// Deeper texts may be nested too deep.
	deep := sample.Nested(31, p("r"), func(c api.Claim) api.Claim { return not(and(p("s"), c)) })
	checkClaim(t, usual(), nil, show.Claim(deep), api.Claim{}, 21*len("~(s & ")+1, api.ErrDeep)
}

// What is read is well sorted, whatever the text is, and every call ends.
func TestWhatIsReadIsWellSorted(t *testing.T) {
	next := sample.Scattered(3935559000370003845)
	all := pieces()
	fit := slices.DeleteFunc(slices.Clone(all), func(s string) bool { return strings.ContainsAny(s, "$#]:z") || s == "007" || len(s) > 5 })
	read := 0
	for range 60000 {
		text := ""
		for range 1 + next(6) {
			text += fit[next(len(fit))] + " "
		}
		text += times(max(0, strings.Count(text, "(")-strings.Count(text, ")")), ")")
		if c, _, e := Claim(usual(), vars(), text); e == 0 {
			read++
			if path, e := well.Claim(usual(), vars(), c); e != 0 {
				t.Error(quoted(text), path, e)
			}
		}
		if x, _, e := Term(usual(), vars(), text); e == 0 {
			read++
			if _, path, e := well.Term(usual(), vars(), x); e != 0 {
				t.Error(quoted(text), path, e)
			}
		}
	}
	if read < 1000 {
		t.Error("too few:", read)
	}
	for range 20000 {
		bytes := make([]byte, next(40))
		for i := range bytes {
			bytes[i] = byte(next(256))
			if next(4) > 0 {
				bytes[i] = " ()()+-*=<>&|~!?:.,xAr01#\n"[next(26)]
			}
		}
		followText(t, usual(), vars(), string(bytes))
	}
}

// Long texts and lists of tokens come to their end.
func TestLongTexts(t *testing.T) {
	for _, s := range []string{"(", ")", "~", "-", "!", "x ", "x(", "r & ", "r -> ", "!x: A. ", "!x: A, ", "x + ", "2 * ", "1 ", "x, ", "f(x, ", "(x) ", "x = ", "(r) & ", "?x: A. ~", "x * "} {
		text := times(api.MaxText/len(s), s)
		for _, open := range []string{"", "(", "f("} {
			whole := (open + text)[:len(text)]
			Term(usual(), vars(), whole)
			Claim(usual(), vars(), whole)
		}
		l := slices.Repeat(tokens(s), 1<<15)
		for _, at := range []int{0, 1, 2, len(l) / 2, len(l) - 1} {
			TermAt(l, at)
			ClaimAt(l, at)
			VarAt(l, at)
		}
	}
	l := slices.Repeat(tokens("x +"), 1<<18)
	if _, at, e := TermAt(l, 0); at != len(l) || e != api.ErrEnd {
		t.Error(at, e)
	}
	if x, at, e := TermAt(l[:len(l)-1], 0); at != len(l)-1 || e != 0 || x.Op != api.TAdd {
		t.Error(x.Op, at, e)
	}
	l = slices.Concat(tokens("p("), slices.Repeat(tokens("f(x), "), 1<<16), tokens("x) & r"))
	if c, at, e := ClaimAt(l, 0); at != len(l) || e != 0 || c.Op != api.CAnd || len(c.Subs[0].Terms) != 1<<16+1 {
		t.Error(c.Op, at, e)
	}
}
