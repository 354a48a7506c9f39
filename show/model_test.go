package show

import (
	"slices"
	"strconv"
	"strings"
	"testing"

	"sequitur/api"
	"sequitur/claim"
	"sequitur/sample"
)

// What the chapter says, word by word, with nothing of the package in it: text is written with parentheses around every part, and those that the grammar does not need are taken away.

func wantFresh(base string, taken []string) string {
	for n := 0; ; n++ {
		s := base
		if n > 0 {
			s += strconv.Itoa(n)
		}
		if !slices.Contains(taken, s) {
			return s
		}
	}
}

func wantName(name string, taken []string) string {
	may := sample.Named(name)
	if may && !slices.Contains(taken, name) {
		return name
	}
	base := "x"
	if may {
		base = name
	}
	if s := wantFresh(base, taken); len(s) <= 32 {
		return s
	}
	return wantFresh("x", taken)
}

// takenBy are the names that a term takes.
func takenBy(t api.Term) []string {
	var l []string
	if t.Op == 1 || t.Op == 3 {
		l = append(l, t.Name)
	}
	for _, a := range t.Args {
		l = append(l, takenBy(a)...)
	}
	return l
}

// takenByClaim are the names that a claim takes.
func takenByClaim(c api.Claim) []string {
	var l []string
	if c.Op == 3 {
		l = append(l, c.Name)
	}
	for _, t := range c.Terms {
		l = append(l, takenBy(t)...)
	}
	for _, s := range c.Subs {
		l = append(l, takenByClaim(s)...)
	}
	return l
}

// renamed is c with the printed names of its binders.
func renamed(c api.Claim) api.Claim { return renamedWithin(c, takenByClaim(c)) }

func renamedWithin(c api.Claim, taken []string) api.Claim {
	if c.Op == 11 || c.Op == 12 {
		c.Name = wantName(c.Name, taken)
		taken = append(slices.Clip(taken), c.Name)
	}
	l := c.Subs
	c.Subs = nil
	for _, s := range l {
		c.Subs = append(c.Subs, renamedWithin(s, taken))
	}
	return c
}

// plainTerm is t as it may be read: a TApp without Args is a name like a TVar.
func plainTerm(t api.Term) api.Term {
	if t.Op == 3 && len(t.Args) == 0 {
		return v(t.Name)
	}
	l := t.Args
	t.Args = nil
	for _, a := range l {
		t.Args = append(t.Args, plainTerm(a))
	}
	return t
}

// plain is c as it may be read, with the printed names of its binders.
func plain(c api.Claim) api.Claim { return plainPart(renamed(c)) }

func plainPart(c api.Claim) api.Claim {
	terms, subs := c.Terms, c.Subs
	c.Terms, c.Subs = nil, nil
	for _, t := range terms {
		c.Terms = append(c.Terms, plainTerm(t))
	}
	for _, s := range subs {
		c.Subs = append(c.Subs, plainPart(s))
	}
	return c
}

// piece is a piece of text; a parenthesis has the number of its pair, if that may be taken away.
type piece struct {
	text string
	pair int
}

// writer writes text with parentheses around every part.
type writer struct {
	l       []piece
	pairs   int
	binders []string
}

func (w *writer) add(l ...string) {
	for _, s := range l {
		w.l = append(w.l, piece{text: s})
	}
}

// pair writes a pair of parentheses around what f writes; the outer ones have the smaller numbers.
func (w *writer) pair(f func()) {
	w.pairs++
	n := w.pairs
	w.l = append(w.l, piece{"(", n})
	f()
	w.l = append(w.l, piece{")", n})
}

// operand writes an operand of +, -, * or of a TNeg.
func (w *writer) operand(t api.Term, under int) {
	if t.Op == 4 && (t.Num < 0 || under == 7) {
		w.add("(", strconv.FormatInt(t.Num, 10), ")")
		return
	}
	w.whole(t)
}

func (w *writer) whole(t api.Term) { w.pair(func() { w.term(t) }) }

func (w *writer) applied(name string, l []api.Term) {
	w.add(name)
	for i, t := range l {
		w.add([]string{"(", ", "}[min(i, 1)])
		w.whole(t)
	}
	if len(l) > 0 {
		w.add(")")
	}
}

func (w *writer) term(t api.Term) {
	switch n := strconv.FormatInt(t.Num, 10); t.Op {
	case 1, 3:
		w.applied(t.Name, t.Args)
	case 2:
		if t.Num >= int64(len(w.binders)) {
			w.add("'", strconv.Itoa(int(t.Num)-len(w.binders)))
		} else {
			w.add(w.binders[len(w.binders)-int(t.Num)-1])
		}
	case 4:
		w.add(n)
	case 5, 6:
		w.operand(t.Args[0], t.Op)
		w.add(map[int]string{5: " + ", 6: " - "}[t.Op])
		w.operand(t.Args[1], t.Op)
	case 7:
		w.add("-")
		w.operand(t.Args[0], t.Op)
	case 8:
		if t.Num < 0 {
			n = "(" + n + ")"
		}
		w.add(n, " * ")
		w.operand(t.Args[0], t.Op)
	}
}

// claim writes a claim whose binders have their printed names.
func (w *writer) claim(c api.Claim) {
	part := func(c api.Claim) { w.pair(func() { w.claim(c) }) }
	switch c.Op {
	case 1:
		w.add("true")
	case 2:
		w.add("false")
	case 3:
		w.applied(c.Name, c.Terms)
	case 4, 5:
		w.whole(c.Terms[0])
		w.add(map[int]string{4: " = ", 5: " <= "}[c.Op])
		w.whole(c.Terms[1])
	case 6:
		w.add("~")
		part(c.Subs[0])
	case 11, 12:
		w.add(map[int]string{11: "!", 12: "?"}[c.Op], c.Name, ": ", c.Sort, ". ")
		w.binders = append(w.binders, c.Name)
		part(c.Subs[0])
		w.binders = w.binders[:len(w.binders)-1]
	default:
		part(c.Subs[0])
		w.add(map[int]string{7: " & ", 8: " | ", 9: " -> ", 10: " <-> "}[c.Op])
		part(c.Subs[1])
	}
}

// fewest is the text without the pairs that may be taken away, the outer ones first, while it reads as before.
// Where there is a choice, as in r & (!x: A. s) | t or (r & !x: A. s) | t, the binder keeps its own.
func (w *writer) fewest(reads func(string) bool) string {
	for n := range w.pairs {
		fewer := slices.DeleteFunc(slices.Clone(w.l), func(x piece) bool { return x.pair == n+1 })
		if reads(joined(fewer)) {
			w.l = fewer
		}
	}
	return joined(w.l)
}

func joined(l []piece) string {
	var b strings.Builder
	for _, x := range l {
		b.WriteString(x.text)
	}
	return b.String()
}

// isTerm tells whether s is read as the plain term t.
func isTerm(s string, t api.Term) bool {
	got, ok := readTerm(s)
	return ok && sample.EqualTerms(got, t)
}

// isClaim tells whether s is read as the plain claim c.
func isClaim(s string, c api.Claim) bool {
	got, ok := readClaim(s)
	return ok && sample.EqualClaims(got, c)
}

// wantTerm is the text of a right term in which every name may be read.
func wantTerm(t api.Term) string {
	var w writer
	w.term(t)
	t = plainTerm(t)
	return w.fewest(func(s string) bool { return isTerm(s, t) })
}

// wantClaim is the text of a right claim in which every name and every sort may be read.
func wantClaim(c api.Claim) string {
	var w writer
	w.claim(renamed(c))
	c = plain(c)
	return w.fewest(func(s string) bool { return isClaim(s, c) })
}

// check holds what f answers against want, and the arguments against what they were.
func check(t *testing.T, f func() string, want string, arguments sample.Data) {
	t.Helper()
	var got, again string
	if said := arguments.Changed(func() { got, again = f(), f() }); said != "" {
		t.Error(said)
	}
	if got != want || again != want {
		t.Errorf("%s give %s and %s; want %s", arguments.Text(), quoted(got), quoted(again), quoted(want))
	}
}

// quoted is s in quotes, without most of a long text.
func quoted(s string) string { return strconv.Quote(s[:min(len(s), 400)]) }

// checkTerm holds the text of a right term, alone and as all the terms of a claim.
func checkTerm(t *testing.T, x api.Term, want string) {
	t.Helper()
	check(t, func() string { return Term(x) }, want, sample.Terms(x))
	if c := eq(x, x); claim.Right(c) == 0 {
		checkClaim(t, c, want+" = "+want)
	}
}

func checkClaim(t *testing.T, c api.Claim, want string) {
	t.Helper()
	check(t, func() string { return Claim(c) }, want, sample.Claims(c))
}

// followTerm holds the text of a right term against the model, and what is read of it against the term.
func followTerm(t *testing.T, x api.Term) string {
	t.Helper()
	want := wantTerm(x)
	check(t, func() string { return Term(x) }, want, sample.Terms(x))
	if !isTerm(want, plainTerm(x)) {
		t.Errorf("%s is not read as %s", quoted(want), termText(x))
	}
	return want
}

func followClaim(t *testing.T, c api.Claim) string {
	t.Helper()
	want := wantClaim(c)
	checkClaim(t, c, want)
	if !isClaim(want, plain(c)) {
		t.Errorf("%s is not read as %s", quoted(want), text(c))
	}
	return want
}

func checkFresh(t *testing.T, base string, taken []string, want string) {
	t.Helper()
	check(t, func() string { return Fresh(base, taken) }, want, sample.Data{Names: [][]string{taken}})
}

func checkVar(t *testing.T, x api.Var, want string) {
	t.Helper()
	check(t, func() string { return Var(x) }, want, sample.Data{Vars: [][]api.Var{{x}}})
}

func checkFun(t *testing.T, f api.Fun, want string) {
	t.Helper()
	check(t, func() string { return Fun(f) }, want, sample.Data{Signs: []api.Sign{{Funs: []api.Fun{f}}}})
}

// checkSeq also holds the hypotheses against what they were.
func checkSeq(t *testing.T, s api.Seq, want string) {
	t.Helper()
	before := slices.Clone(s.Hyps)
	arguments := sample.Data{Vars: [][]api.Var{s.Vars}, Claims: []api.Claim{s.Goal}}
	for _, h := range s.Hyps {
		arguments.Claims = append(arguments.Claims, h.Claim)
	}
	check(t, func() string { return Seq(s) }, want, arguments)
	if !slices.EqualFunc(s.Hyps, before, func(a, b api.Hyp) bool { return a.Name == b.Name && sample.EqualClaims(a.Claim, b.Claim) }) {
		t.Error("changed hypotheses of", quoted(want))
	}
}
