package sample

import (
	"slices"
	"strings"
	"testing"

	"sequitur/api"
	"sequitur/claim"
	"sequitur/term"
)

// whole is a claim of several parts, each time in new memory.
func whole() api.Claim {
	x := Var("x")
	return And(All("u", "A", Pred("p", Bound(0), App("f", x, Add(x, Num(1))))), Or(Not(Eq(Neg(x), Mul(2, x))), Imp(Le(Sub(x, x), Num(-3)), Iff(True(), Ex("w", "B", False())))))
}

func TestRight(t *testing.T) {
	for _, c := range []api.Claim{whole(), Pred("p", Vars(8, "y")...), Nots(63, Heavy(4096-63)), SizedClaim(4096), Eq(Chain(63, Var("x")), SizedTerm(4000))} {
		if e := claim.Right(c); e != api.OK {
			t.Error(ClaimText(c), e)
		}
	}
}

func TestSizes(t *testing.T) {
	for n := 1; n <= 500; n++ {
		if a, b, c := term.Size(SizedTerm(n)), claim.Size(SizedClaim(n)), claim.Size(Heavy(n)); a != n || b != n || c != n {
			t.Error(n, a, b, c)
		}
	}
	for n := range 64 {
		if a, b := term.Depth(Chain(n, Var("x"))), claim.Depth(Nots(n, True())); a != n+1 || b != n+1 {
			t.Error(n, a, b)
		}
	}
}

// changes are ways to change the whole, each in one place.
func changes() map[string]func(c *api.Claim) {
	return map[string]func(c *api.Claim){
		"op":             func(c *api.Claim) { c.Subs[1].Op = api.CAnd },
		"name":           func(c *api.Claim) { c.Subs[0].Subs[0].Name = "q" },
		"binder":         func(c *api.Claim) { c.Subs[0].Name = "x" },
		"sort":           func(c *api.Claim) { c.Subs[0].Sort = "B" },
		"term":           func(c *api.Claim) { c.Subs[0].Subs[0].Terms[0].Num = 1 },
		"name of a term": func(c *api.Claim) { c.Subs[0].Subs[0].Terms[1].Name = "g" },
		"op of a term":   func(c *api.Claim) { c.Subs[0].Subs[0].Terms[1].Args[1].Op = api.TSub },
		"arg":            func(c *api.Claim) { c.Subs[0].Subs[0].Terms[1].Args[1].Args[0] = Var("y") },
		"fewer terms":    func(c *api.Claim) { c.Subs[0].Subs[0].Terms = c.Subs[0].Subs[0].Terms[:1] },
		"fewer subs":     func(c *api.Claim) { c.Subs[1].Subs = c.Subs[1].Subs[:1] },
		"everything":     func(c *api.Claim) { SpoilClaim(*c) },
	}
}

func TestEqualAndChanged(t *testing.T) {
	if c := whole(); !EqualClaims(c, whole()) || !EqualClaims(c, TwinClaim(c)) || Changed(func() {}, c, TwinClaim(c)) != "" {
		t.Error(ClaimText(c))
	}
	for name, change := range changes() {
		c := whole()
		said := Changed(func() { change(&c) }, api.Claim{Subs: []api.Claim{True()}}, c)
		if EqualClaims(c, whole()) || EqualClaims(whole(), c) || said == "" {
			t.Errorf("%s: %q", name, said)
		}
	}
	l := []api.Claim{Pred("p")}
	if said := Changed(func() { l[0].Terms = []api.Term{} }, l...); said == "" || !EqualClaims(l[0], Pred("p")) {
		t.Errorf("an empty list in place of nil: %q", said)
	}
	if x, y := App("f", Var("x")), App("f", Var("y")); EqualTerms(x, y) || !EqualTerms(x, TwinTerm(x)) || EqualTerms(x, App("f")) {
		t.Error(TermText(x), TermText(y))
	}
}

func TestShares(t *testing.T) {
	c := whole()
	if Shares(TwinClaim(c), c) || Shares(c) || !Shares(c, c) || !Shares(And(TwinClaim(c), c), c) || !Shares(And(c, c)) {
		t.Error("whole claims")
	}
	inner := c.Subs[0].Subs[0].Terms[1]
	if !Shares(Pred("q", inner), c) || !Shares(Pred("q", inner, inner)) || Shares(Pred("q", inner, TwinTerm(inner)), TwinClaim(c)) || !Shares(api.Claim{Terms: inner.Args}, c) {
		t.Error("terms")
	}
	room := []api.Term{Var("x"), Var("y")}
	if !Shares(Pred("q", room[1:]...), Pred("p", room[:1]...)) || Shares(Pred("q", room[1:]...), Pred("p", room[:1:1]...)) {
		t.Error("memory behind the end of a list")
	}
	if Shares(True(), And(c, c)) {
		t.Error("arguments may share memory among themselves")
	}
}

func TestTexts(t *testing.T) {
	if s := ClaimText(All("u", "A", Pred("p", App("f", Bound(0), Var("x"))))); s != `(11:"u":"A"(3:"p":""<3:"f":0<2:"":0><1:"x":0>>))` {
		t.Error(s)
	}
	for _, s := range []string{ClaimText(Nots(1000, True())), TermText(Chain(1000, Var("x"))), TermText(Var(strings.Repeat("x", 10000))), ClaimText(Heavy(4000))} {
		if len(s) > 300 {
			t.Error(len(s))
		}
	}
	if s := TermTexts(Vars(7, "x")); s != "7 terms: "+strings.Repeat(`<1:"x":0>, `, 5)+`<1:"x":0>` {
		t.Error(s)
	}
	if s := ClaimTexts(nil); s != "0 claims: " {
		t.Error(s)
	}
	if s := Lists([]api.Pair{Pair("x", Num(1))}, nil).With(Terms(Var("y"))).Text(); s != `[1 pairs: "x" := <4:"":1>] [0 pairs: ] 1 claims: (0:"":""<1:"y":0>)` {
		t.Error(s)
	}
}

func TestSpoil(t *testing.T) {
	x := App("f", App("g", Var("x")))
	inner := x.Args
	SpoilTerm(x)
	if !EqualTerms(x, App("f", Num(99))) || !EqualTerms(inner[0], Num(99)) {
		t.Error(TermText(x))
	}
	c := And(Pred("p", Var("x")), True())
	terms := c.Subs[0].Terms
	SpoilClaim(c)
	if !EqualClaims(c, And(Pred("spoilt"), Pred("spoilt"))) || !EqualTerms(terms[0], Num(99)) {
		t.Error(ClaimText(c))
	}
}

// list is a substitution, each time in new memory.
func list() []api.Pair {
	return []api.Pair{Pair("x", App("f", Var("y"))), Pair("y", Num(1)), Pair("z", App("g", App("f", Var("x"))))}
}

// listChanges are ways to change that list, each in one place.
func listChanges() map[string]func(l *[]api.Pair) {
	return map[string]func(l *[]api.Pair){
		"name":        func(l *[]api.Pair) { (*l)[1].Name = "x" },
		"term":        func(l *[]api.Pair) { (*l)[1].Term.Num = 2 },
		"arg":         func(l *[]api.Pair) { (*l)[2].Term.Args[0].Args[0].Name = "y" },
		"order":       func(l *[]api.Pair) { (*l)[0], (*l)[1] = (*l)[1], (*l)[0] },
		"fewer pairs": func(l *[]api.Pair) { *l = (*l)[:2] },
		"everything":  func(l *[]api.Pair) { SpoilPairs(*l) },
	}
}

func TestPairsEqualAndChanged(t *testing.T) {
	if d := Lists(list()); !d.Equal(Lists(TwinPairs(list()))) || d.Changed(func() {}) != "" || !EqualPairs(nil, []api.Pair{}) {
		t.Error(d.Text())
	}
	for name, change := range listChanges() {
		d := Lists(list(), list()).With(Claims(whole()))
		said := d.Changed(func() { change(&d.Pairs[1]) })
		if d.Equal(Lists(list(), list()).With(Claims(whole()))) || said == "" {
			t.Errorf("%s: %q", name, said)
		}
	}
	d := Lists(list()).With(Terms(Var("x"), Var("y")))
	said := d.Changed(func() { d.Claims[0].Terms[1].Name = "z" })
	if d.Equal(Lists(list()).With(Terms(Var("x"), Var("y")))) || said == "" {
		t.Errorf("a term: %q", said)
	}
	empty := Lists(nil)
	if said := empty.Changed(func() { empty.Pairs[0] = []api.Pair{} }); said == "" || !empty.Equal(Lists(nil)) || empty.Equal(Data{}) {
		t.Errorf("an empty list in place of nil: %q", said)
	}
}

func TestPairsShare(t *testing.T) {
	l := list()
	inner := l[2].Term.Args[0]
	for i, d := range []Data{Lists(l), Lists(l[1:]), Lists(l[:0]), Terms(inner), Claims(Pred("p", Var("x"), inner)), Lists([]api.Pair{Pair("u", inner)}), Lists(l, l)} {
		if !d.Shares(Lists(list(), l)) || d.Shares(Lists(list())) != (i == 6) {
			t.Error(d.Text())
		}
	}
	if d := Lists(TwinPairs(l), list()).With(Claims(whole())); d.Shares(Lists(l)) || !Lists([]api.Pair{Pair("u", inner), Pair("v", inner)}).Shares(Data{}) {
		t.Error(d.Text())
	}
	if c := []api.Claim{whole(), whole()}; !Claims(c...).Shares(Claims(c...)) || !Shares(Made(api.CAnd, c...), c...) {
		t.Error("a list of claims")
	}
}

func TestWrong(t *testing.T) {
	l := list()
	for want, call := range map[string]func() Data{
		"":         func() Data { return Lists(list()) },
		"; want ":  func() Data { return Lists(nil) },
		"became":   func() Data { l[0].Name = "y"; return Lists(list()) },
		" share m": func() Data { return Lists(l) },
	} {
		l = list()
		if said := Wrong(call, Lists(list()), Lists(l)); !strings.Contains(said, want) || (said == "") != (want == "") {
			t.Errorf("%q: %q", want, said)
		}
	}
}

func TestWrongBy(t *testing.T) {
	names := []string{"x", "y"}
	var calls []string
	call := func(l []string) Data { calls = append(calls, strings.Join(l, "")); return Lists(list()) }
	if said := WrongBy(call, Lists(list()), Lists(nil), names); said != "" || !slices.Equal(calls, []string{"xy", "yxxy"}) {
		t.Error(said, calls)
	}
	if said := WrongBy(call, Lists(nil), Lists(nil), names); !strings.Contains(said, "; want ") || !strings.HasSuffix(said, ` by "x" "y"`) {
		t.Error(said)
	}
	first := func(l []string) Data { return Lists([]api.Pair{Pair(l[0], Num(1))}) }
	if said := WrongBy(first, Lists([]api.Pair{Pair("x", Num(1))}), Lists(nil), names); !strings.Contains(said, `"y" := `) {
		t.Error(said)
	}
	if said := WrongBy(func(l []string) Data { l[1] = "z"; return Lists(nil) }, Lists(nil), Lists(nil), names); said != `changed names by "x" "y"` {
		t.Error(said)
	}
	if said := WrongBy(func([]string) Data { return Lists(nil) }, Lists(nil), Lists(nil), nil); said != "" {
		t.Error(said)
	}
}

func TestTied(t *testing.T) {
	var l []api.Pair
	calls := 0
	for want, call := range map[string]func() Data{
		"":                 func() Data { return Lists(TwinPairs(l)).With(Claims(Pred("p", Num(2)))) },
		"a changed answer": func() Data { return Lists(l) },
		"a changed argument": func() Data {
			if calls++; calls < 3 {
				return Lists(TwinPairs(l))
			}
			return Lists(l)
		},
	} {
		l = list()
		if said := Tied(call, Lists(l)); !strings.HasPrefix(said, want) || (said == "") != (want == "") {
			t.Errorf("%q: %q", want, said)
		}
	}
	if l = list(); Tied(func() Data { return Lists(TwinPairs(l)) }, Lists(l)) != "" || EqualPairs(l, list()) {
		t.Error(PairsText(l))
	}
	c := whole()
	if Tied(func() Data { return Claims(api.Claim{Terms: c.Subs[0].Subs[0].Terms[1:]}) }, Claims(c)) == "" {
		t.Error(ClaimText(c))
	}
}

func TestRenamed(t *testing.T) {
	c := And(Within(3, Pred("x", Var("y"))), Ex("z", "B", Eq(Var("x"), Bound(0))))
	before := TwinClaim(c)
	for want, names := range map[string][]string{"a,a,a,a": {"a"}, "a,b,a,a": {"a", "b"}, "a,b,,a": {"a", "b", "", "d"}} {
		l := slices.Clone(names)
		got := Renamed(c, l...)
		one := got.Subs[0]
		in := strings.Join([]string{one.Name, one.Subs[0].Name, one.Subs[0].Subs[0].Name, got.Subs[1].Name}, ",")
		if in != want || !claim.Same(got, c) || !EqualClaims(c, before) || !slices.Equal(l, names) {
			t.Error(names, ClaimText(got), ClaimText(c), l)
		}
	}
}

func TestTermsOf(t *testing.T) {
	x, y := Var("x"), App("f", Var("x"))
	c := Or(And(Pred("p", x, y, x), Within(2, Eq(Bound(0), x))), WithTerms(Not(Pred("p", Num(1))), y))
	if l := TermsOf(c); !EqualClaims(Pred("", l...), Pred("", x, y, x, Bound(0), x, y, Num(1))) {
		t.Error(TermTexts(l))
	}
	if l := TermsOf(And(True(), False())); len(l) != 0 {
		t.Error(TermTexts(l))
	}
}

func TestWithin(t *testing.T) {
	if c := Within(0, Pred("p")); !EqualClaims(c, Pred("p")) {
		t.Error(ClaimText(c))
	}
	if c := Within(3, Pred("p")); !EqualClaims(c, All("u", "A", Ex("y", "A", All("x", "A", Pred("p"))))) {
		t.Error(ClaimText(c))
	}
	if c := Within(60, Pred("p")); claim.Right(c) != api.OK || claim.Depth(c) != 61 {
		t.Error(ClaimText(c))
	}
}

// Each hull is another one, has the term as one of its Args or within, and is right if it is to be.
func TestHulls(t *testing.T) {
	part := App("part")
	seen := map[string]bool{}
	for i, hull := range Hulls() {
		x := hull(part)
		if !term.Has(x, part) || term.Depth(x) < 2 || seen[TermText(x)] || (term.Right(x) == api.OK) != (i < len(RightHulls())) {
			t.Error(i, TermText(x))
		}
		seen[TermText(x)] = true
	}
	for _, hull := range RightHulls() {
		if x := hull(api.Term{}); term.Right(x) != api.ErrForm || !seen[TermText(hull(part))] {
			t.Error(TermText(x))
		}
	}
	ops := map[int]bool{}
	for _, hull := range Hulls() {
		ops[hull(part).Op] = true
	}
	for op := range 10 {
		if !ops[op] {
			t.Error("no hull with Op", op)
		}
	}
}

func TestWrongTerms(t *testing.T) {
	for e, x := range WrongTerms() {
		if got := term.Right(x); got != e || e == api.OK || slices.ContainsFunc(term.Parts(x), func(p api.Term) bool { return p.Op == api.TBound }) {
			t.Error(e, got, TermText(x))
		}
	}
	if n := len(WrongTerms()); n != 4 {
		t.Error(n)
	}
}

func TestSubstitutions(t *testing.T) {
	all := Substitutions(2, []string{"y", "x"}, []api.Term{Num(1), Num(2)})
	seen := map[string]bool{}
	for _, l := range all {
		seen[PairsText(l)] = true
	}
	if len(all) != 1+4+16 || len(seen) != len(all) {
		t.Error(len(all), len(seen))
	}
	for _, l := range [][]api.Pair{nil, {Pair("x", Num(2))}, {Pair("x", Num(1)), Pair("y", Num(1))}, {Pair("y", Num(2)), Pair("y", Num(1))}} {
		if !seen[PairsText(l)] {
			t.Error(PairsText(l))
		}
	}
	if l := Substitutions(3, nil, nil); len(l) != 1 || len(l[0]) != 0 {
		t.Error(len(l))
	}
}

func TestScattered(t *testing.T) {
	for _, seed := range []uint64{1, 12, 1 << 63, 88172645463325252} {
		next, again, other := Scattered(seed), Scattered(seed), Scattered(seed+1)
		found, same := map[int]int{}, 0
		for range 8000 {
			n, o := next(8), other(8)
			if n != again(8) {
				t.Error("not the same each time")
			}
			if found[n]++; n == o {
				same++
			}
		}
		for n := range 8 {
			if found[n] < 800 || len(found) > 8 || same > 2000 {
				t.Error(seed, found, same)
			}
		}
	}
}

// What is made is right, no deeper than it may be, of what it may be made of, and of every kind.
func TestWild(t *testing.T) {
	wild := Wild{Pick: Scattered(7), Vars: []string{"x", "y"}, Funs: []string{"f", "g"}, Sorts: []api.Sort{"A", "B"}, Nums: []int64{3, -4}, Bounds: 2}
	terms, claims, names := map[int]int{}, map[int]int{}, map[string]int{}
	for i := range 4000 {
		d := i % 4
		x, c := wild.Term(d), wild.Claim(d)
		for _, p := range term.Parts(x) {
			terms[p.Op]++
			names[p.Name]++
		}
		claims[c.Op]++
		names[c.Name]++
		names[c.Sort]++
		if term.Right(x) != api.OK || term.Depth(x) > d+1 || claim.Right(c) != api.OK || claim.Depth(c) > d+1 {
			t.Error(d, TermText(x), ClaimText(c))
		}
	}
	for op := 1; op <= 8; op++ {
		if terms[op] < 100 || claims[op+2] < 100 || claims[op+4] < 100 {
			t.Error(op, terms, claims)
		}
	}
	if len(terms) != 8 || len(claims) != 10 || len(names) != 7 {
		t.Error(terms, claims, names)
	}
}

func TestFillings(t *testing.T) {
	all := Fillings(Free("x A, y B, z C, u A"), map[api.Sort][]api.Term{"A": {Num(1), Num(2)}, "B": {Var("v")}})
	seen := map[string]bool{}
	for _, l := range all {
		seen[PairsText(l)] = true
	}
	if len(all) != 3*2*3 || len(seen) != len(all) {
		t.Error(len(all), len(seen))
	}
	for _, l := range [][]api.Pair{nil, {Pair("x", Num(2))}, {Pair("y", Var("v")), Pair("u", Num(1))}, {Pair("x", Num(1)), Pair("y", Var("v")), Pair("u", Num(2))}} {
		if !seen[PairsText(l)] {
			t.Error(PairsText(l))
		}
	}
	if l := Fillings(nil, nil); len(l) != 1 || len(l[0]) != 0 {
		t.Error(len(l))
	}
}

func TestRare(t *testing.T) {
	found := map[api.Errno]int{api.OK: 3, api.ErrArg: 2, api.ErrLong: 1}
	if l := Rare(found, 2, api.OK, api.ErrLong, api.ErrArg, api.ErrNone); !slices.Equal(l, []api.Errno{api.ErrLong, api.ErrNone}) {
		t.Error(l)
	}
	if l := Rare(found, 1, api.OK, api.ErrArg); len(l) != 0 {
		t.Error(l)
	}
}

func TestRoomy(t *testing.T) {
	l := []int{1, 2, 3}
	room := Roomy(l[:2], 9)
	if !slices.Equal(room, l[:2]) || !slices.Equal(room[:5], []int{1, 2, 9, 9, 9}) || l[2] != 3 {
		t.Error(room[:5], l)
	}
	room[0] = 7
	if l[0] != 1 || len(Roomy([]int(nil), 9)) != 0 {
		t.Error(l)
	}
}
