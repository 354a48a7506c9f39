package sample

import (
	"strings"
	"testing"

	"sequitur/api"
	"sequitur/claim"
	"sequitur/term"
)

// whole is a claim of several parts, each time in new memory.
func whole() api.Claim {
	x := Var("x")
	return And(All("u", "A", Pred("p", Bound(0), App("f", x, Add(x, Num(1))))), Or(Not(Eq(Neg(x), Mul(2, x))), Imp(Le(Sub(x, x), Num(-3)), Iff(True(), Ex("w", "B", False())))))
}

func TestRight(t *testing.T) {
	for _, c := range []api.Claim{whole(), Pred("p", Vars(8, "y")...), Nots(63, Heavy(4096-63)), SizedClaim(4096), Eq(Chain(63, Var("x")), SizedTerm(4000))} {
		if e := claim.Right(c); e != api.OK {
			t.Error(ClaimText(c), e)
		}
	}
}

func TestSizes(t *testing.T) {
	for n := 1; n <= 500; n++ {
		if a, b, c := term.Size(SizedTerm(n)), claim.Size(SizedClaim(n)), claim.Size(Heavy(n)); a != n || b != n || c != n {
			t.Error(n, a, b, c)
		}
	}
	for n := range 64 {
		if a, b := term.Depth(Chain(n, Var("x"))), claim.Depth(Nots(n, True())); a != n+1 || b != n+1 {
			t.Error(n, a, b)
		}
	}
}

// changes are ways to change the whole, each in one place.
func changes() map[string]func(c *api.Claim) {
	return map[string]func(c *api.Claim){
		"op":             func(c *api.Claim) { c.Subs[1].Op = api.CAnd },
		"name":           func(c *api.Claim) { c.Subs[0].Subs[0].Name = "q" },
		"binder":         func(c *api.Claim) { c.Subs[0].Name = "x" },
		"sort":           func(c *api.Claim) { c.Subs[0].Sort = "B" },
		"term":           func(c *api.Claim) { c.Subs[0].Subs[0].Terms[0].Num = 1 },
		"name of a term": func(c *api.Claim) { c.Subs[0].Subs[0].Terms[1].Name = "g" },
		"op of a term":   func(c *api.Claim) { c.Subs[0].Subs[0].Terms[1].Args[1].Op = api.TSub },
		"arg":            func(c *api.Claim) { c.Subs[0].Subs[0].Terms[1].Args[1].Args[0] = Var("y") },
		"fewer terms":    func(c *api.Claim) { c.Subs[0].Subs[0].Terms = c.Subs[0].Subs[0].Terms[:1] },
		"fewer subs":     func(c *api.Claim) { c.Subs[1].Subs = c.Subs[1].Subs[:1] },
		"everything":     func(c *api.Claim) { SpoilClaim(*c) },
	}
}

func TestEqualAndChanged(t *testing.T) {
	if c := whole(); !EqualClaims(c, whole()) || !EqualClaims(c, TwinClaim(c)) || Changed(func() {}, c, TwinClaim(c)) != "" {
		t.Error(ClaimText(c))
	}
	for name, change := range changes() {
		c := whole()
		said := Changed(func() { change(&c) }, api.Claim{Subs: []api.Claim{True()}}, c)
		if EqualClaims(c, whole()) || EqualClaims(whole(), c) || said == "" {
			t.Errorf("%s: %q", name, said)
		}
	}
	l := []api.Claim{Pred("p")}
	if said := Changed(func() { l[0].Terms = []api.Term{} }, l...); said == "" || !EqualClaims(l[0], Pred("p")) {
		t.Errorf("an empty list in place of nil: %q", said)
	}
	if x, y := App("f", Var("x")), App("f", Var("y")); EqualTerms(x, y) || !EqualTerms(x, TwinTerm(x)) || EqualTerms(x, App("f")) {
		t.Error(TermText(x), TermText(y))
	}
}

func TestShares(t *testing.T) {
	c := whole()
	if Shares(TwinClaim(c), c) || Shares(c) || !Shares(c, c) || !Shares(And(TwinClaim(c), c), c) || !Shares(And(c, c)) {
		t.Error("whole claims")
	}
	inner := c.Subs[0].Subs[0].Terms[1]
	if !Shares(Pred("q", inner), c) || !Shares(Pred("q", inner, inner)) || Shares(Pred("q", inner, TwinTerm(inner)), TwinClaim(c)) || !Shares(api.Claim{Terms: inner.Args}, c) {
		t.Error("terms")
	}
	room := []api.Term{Var("x"), Var("y")}
	if !Shares(Pred("q", room[1:]...), Pred("p", room[:1]...)) || Shares(Pred("q", room[1:]...), Pred("p", room[:1:1]...)) {
		t.Error("memory behind the end of a list")
	}
	if Shares(True(), And(c, c)) {
		t.Error("arguments may share memory among themselves")
	}
}

func TestTexts(t *testing.T) {
	if s := ClaimText(All("u", "A", Pred("p", App("f", Bound(0), Var("x"))))); s != `(11:"u":"A"(3:"p":""<3:"f":0<2:"":0><1:"x":0>>))` {
		t.Error(s)
	}
	for _, s := range []string{ClaimText(Nots(1000, True())), TermText(Chain(1000, Var("x"))), TermText(Var(strings.Repeat("x", 10000))), ClaimText(Heavy(4000))} {
		if len(s) > 300 {
			t.Error(len(s))
		}
	}
	if s := TermTexts(Vars(7, "x")); s != "7 terms: "+strings.Repeat(`<1:"x":0>, `, 5)+`<1:"x":0>` {
		t.Error(s)
	}
	if s := ClaimTexts(nil); s != "0 claims: " {
		t.Error(s)
	}
}

func TestSpoil(t *testing.T) {
	x := App("f", App("g", Var("x")))
	inner := x.Args
	SpoilTerm(x)
	if !EqualTerms(x, App("f", Num(99))) || !EqualTerms(inner[0], Num(99)) {
		t.Error(TermText(x))
	}
	c := And(Pred("p", Var("x")), True())
	terms := c.Subs[0].Terms
	SpoilClaim(c)
	if !EqualClaims(c, And(Pred("spoilt"), Pred("spoilt"))) || !EqualTerms(terms[0], Num(99)) {
		t.Error(ClaimText(c))
	}
}
