package read

import (
	"slices"
	"strconv"
	"testing"

	"sequitur/api"
	"sequitur/sample"
	"sequitur/token"
	"sequitur/well"
)

// What the chapter says, word by word, with nothing of the package in it: every way in which the grammar may be followed is followed at once.
// A token can occur if one of these ways takes it. What is read ends where no way goes on.

// derived is a sum or a claim that ends at a token; it is open if it ends with a binder, which then has to take what follows.
type derived struct {
	term  api.Term
	claim api.Claim
	end   int
	open  bool
}

// around is what is around a part: how many things are nested, and the names of the binders, the innermost first.
type around struct {
	depth int
	names []string
}

func (a around) deeper() around { return around{a.depth + 1, a.names} }

// model follows the grammar over tokens.
type model struct {
	l    []api.Token
	far  int // the last position at which a token was asked for
	time int // of the last error that is no token that can't occur: twice the number of tokens that were read before it, and one more if it is at one that was read
	at   int
	err  api.Errno
}

// wrong notes an error other than a token that can't occur.
func (m *model) wrong(time, at int, e api.Errno) {
	if m.err == 0 || time > m.time {
		m.time, m.at, m.err = time, at, e
	}
}

// ask is the token at that position, if there is one of the kind.
func (m *model) ask(at, kind int) (string, bool) {
	m.far = max(m.far, at)
	if at == len(m.l) || m.l[at].Kind != kind {
		return "", false
	}
	return m.l[at].Text, true
}

func (m *model) sign(at int, s string) bool {
	got, ok := m.ask(at, 3)
	return ok && got == s
}

func (m *model) word(at int, s string) bool {
	got, ok := m.ask(at, 1)
	return ok && got == s
}

func (m *model) name(at int) (string, bool) {
	got, ok := m.ask(at, 1)
	return got, ok && !slices.Contains(sample.Words(), got)
}

// opens tells whether something more may be nested; it begins with the token at that position.
func (m *model) opens(at int, a around) bool {
	if a.depth == 64 {
		m.wrong(2*at+1, at, api.ErrDeep)
	}
	return a.depth < 64
}

func (m *model) number(at int, minus string) []derived {
	s, ok := m.ask(at, 2)
	if !ok {
		return nil
	}
	n, e := wantNumber(minus + s)
	if e != 0 {
		m.wrong(2*at+1, at, e)
		return nil
	}
	return []derived{{term: num(n), end: at + 1}}
}

// wantNumber is the number with these digits.
func wantNumber(s string) (int64, api.Errno) {
	size := s
	if s != "" && s[0] == '-' {
		size = s[1:]
	}
	for _, b := range []byte(size) {
		if b < '0' || b > '9' {
			return 0, api.ErrForm
		}
	}
	if size == "" || size[0] == '0' && s != "0" {
		return 0, api.ErrForm
	}
	n, e := strconv.ParseInt(s, 10, 64)
	if e != nil {
		return 0, api.ErrRange
	}
	return n, 0
}

// inside is what stands in parentheses.
func (m *model) inside(at int, a around, part func(int, around) []derived) []derived {
	var all []derived
	if m.sign(at, "(") && m.opens(at, a) {
		for _, x := range part(at+1, a.deeper()) {
			if m.sign(x.end, ")") {
				all = append(all, derived{term: x.term, claim: x.claim, end: x.end + 1})
			}
		}
	}
	return all
}

func (m *model) factor(at int, a around) []derived {
	all := append(m.number(at, ""), m.inside(at, a, m.sum)...)
	if m.sign(at, "-") {
		if at+1 < len(m.l) && m.l[at+1].Kind == 2 {
			all = append(all, m.number(at+1, "-")...)
		} else if m.opens(at, a) {
			for _, x := range m.factor(at+1, a.deeper()) {
				all = append(all, derived{term: neg(x.term), end: x.end})
			}
		}
	}
	if name, ok := m.name(at); ok {
		x := v(name)
		if i := slices.Index(a.names, name); i >= 0 {
			x = b(int64(i))
		}
		all = append(all, derived{term: x, end: at + 1})
		for _, y := range m.inside(at+1, a, m.sums) {
			all = append(all, derived{term: app(name, y.term.Args...), end: y.end})
		}
	}
	return all
}

// sums are sums with commas in between, as the Args of a term.
func (m *model) sums(at int, a around) []derived {
	var all []derived
	for _, x := range m.sum(at, a) {
		all = append(all, derived{term: withArgs(api.Term{}, x.term), end: x.end})
	}
	for i := 0; i < len(all); i++ {
		if m.sign(all[i].end, ",") {
			for _, x := range m.sum(all[i].end+1, a) {
				all = append(all, derived{term: withArgs(api.Term{}, append(slices.Clip(all[i].term.Args), x.term)...), end: x.end})
			}
		}
	}
	return all
}

func (m *model) product(at int, a around) []derived {
	var all []derived
	for _, x := range m.factor(at, a) {
		all = append(all, x)
		if !m.sign(x.end, "*") {
			continue
		}
		for _, y := range m.factor(x.end+1, a) {
			switch {
			case x.term.Op == 4:
				all = append(all, derived{term: mul(x.term.Num, y.term), end: y.end})
			case y.term.Op == 4:
				all = append(all, derived{term: mul(y.term.Num, x.term), end: y.end})
			default:
				m.wrong(2*y.end, x.end, api.ErrForm)
			}
		}
	}
	return all
}

func (m *model) sum(at int, a around) []derived {
	all := m.product(at, a)
	for i := 0; i < len(all); i++ {
		for sign, join := range map[string]func(a, b api.Term) api.Term{"+": add, "-": sub} {
			if m.sign(all[i].end, sign) {
				for _, x := range m.product(all[i].end+1, a) {
					all = append(all, derived{term: join(all[i].term, x.term), end: x.end})
				}
			}
		}
	}
	return all
}

func (m *model) atom(at int, a around) []derived {
	all := m.inside(at, a, m.claim)
	for _, x := range m.sum(at, a) {
		alone := derived{claim: p(x.term.Name, x.term.Args...), end: x.end}
		// What is in parentheses may have been read as a claim already.
		same := func(y derived) bool { return y.end == alone.end && sample.EqualClaims(y.claim, alone.claim) }
		if (x.term.Op == 1 || x.term.Op == 3) && !slices.ContainsFunc(all, same) {
			all = append(all, alone)
		}
		for sign, state := range map[string]func(a, b api.Term) api.Claim{
			"=":  eq,
			"<=": le,
			"<":  func(a, b api.Term) api.Claim { return le(add(a, num(1)), b) },
			">":  func(a, b api.Term) api.Claim { return le(add(b, num(1)), a) },
			">=": func(a, b api.Term) api.Claim { return le(b, a) },
		} {
			if m.sign(x.end, sign) {
				for _, y := range m.sum(x.end+1, a) {
					all = append(all, derived{claim: state(x.term, y.term), end: y.end})
				}
			}
		}
	}
	return all
}

func (m *model) not(at int, a around) []derived {
	all := m.atom(at, a)
	if m.word(at, "true") {
		all = append(all, derived{claim: truth(), end: at + 1})
	}
	if m.word(at, "false") {
		all = append(all, derived{claim: falsity(), end: at + 1})
	}
	if m.sign(at, "~") && m.opens(at, a) {
		for _, x := range m.not(at+1, a.deeper()) {
			all = append(all, derived{claim: not(x.claim), end: x.end, open: x.open})
		}
	}
	for sign, made := range map[string]func(name, sort string, c api.Claim) api.Claim{"!": forAll, "?": exists} {
		if m.sign(at, sign) {
			all = append(all, m.binder(at+1, a, made)...)
		}
	}
	return all
}

func (m *model) binder(at int, a around, made func(name, sort string, c api.Claim) api.Claim) []derived {
	name, ok := m.name(at)
	if !ok || !m.opens(at, a) || !m.sign(at+1, ":") {
		return nil
	}
	sort, ok := m.ask(at+2, 1)
	if !ok {
		return nil
	}
	var l, all []derived
	inner := around{a.depth + 1, append([]string{name}, a.names...)}
	if m.sign(at+3, ",") {
		l = m.binder(at+4, inner, made)
	}
	if m.sign(at+3, ".") {
		l = m.claim(at+4, inner)
	}
	for _, x := range l {
		all = append(all, derived{claim: made(name, sort, x.claim), end: x.end, open: true})
	}
	return all
}

func (m *model) claim(at int, a around) []derived { return m.joined(3, at, a) }

// joined are claims of the operator with that number or of tighter ones.
func (m *model) joined(i, at int, a around) []derived {
	if i < 0 {
		return m.not(at, a)
	}
	var all []derived
	for _, x := range m.joined(i-1, at, a) {
		all = append(all, x)
		if !x.open && m.sign(x.end, []string{"&", "|", "->", "<->"}[i]) && m.opens(x.end, a) {
			for _, y := range m.joined(i, x.end+1, a.deeper()) {
				all = append(all, derived{claim: made(7+i, x.claim, y.claim), end: y.end, open: y.open})
			}
		}
	}
	return all
}

// outcome is the first error, or what was read and ends where no way went on.
func (m *model) outcome(all []derived) (derived, int, api.Errno) {
	all = slices.DeleteFunc(all, func(x derived) bool { return x.end != m.far })
	for _, x := range all {
		if !sample.EqualTerms(x.term, all[0].term) || !sample.EqualClaims(x.claim, all[0].claim) {
			panic("two ways to read one text")
		}
	}
	switch {
	case m.err != 0 && m.time >= 2*m.far:
		return derived{}, m.at, m.err
	case len(all) > 0:
		return all[0], m.far, 0
	case m.far == len(m.l):
		return derived{}, m.far, api.ErrEnd
	}
	return derived{}, m.far, api.ErrForm
}

// want is what is read by one of the model's functions from that token on, and whether it asked for a token behind the last one.
func want(l []api.Token, at int, part func(*model, int, around) []derived) (x derived, end int, e api.Errno, more bool) {
	if at < 0 || at >= len(l) {
		return derived{}, len(l), api.ErrEnd, true
	}
	m := &model{l: l, far: at}
	x, end, e = m.outcome(part(m, at, around{}))
	return x, end, e, m.far == len(l)
}

func wantVar(l []api.Token, at int) (api.Var, int, api.Errno) {
	for i := range 3 {
		if at < 0 || at+i >= len(l) {
			return api.Var{}, len(l), api.ErrEnd
		}
		x := l[at+i]
		if i == 0 && (x.Kind != 1 || slices.Contains(sample.Words(), x.Text)) || i == 1 && (x.Kind != 3 || x.Text != ":") || i == 2 && x.Kind != 1 {
			return api.Var{}, at + i, api.ErrForm
		}
	}
	return api.Var{Name: l[at].Text, Sort: l[at+2].Text}, at + 3, 0
}

// wantSettled is t, settled.
func wantSettled(s api.Sign, vars []api.Var, t api.Term) api.Term {
	isVar := slices.ContainsFunc(vars, func(x api.Var) bool { return x.Name == t.Name })
	for _, f := range s.Funs {
		if t.Op == 1 && !isVar && f.Name == t.Name {
			if len(f.Args) == 0 {
				return app(t.Name)
			}
			break
		}
	}
	l := t.Args
	t.Args = nil
	for _, a := range l {
		t.Args = append(t.Args, wantSettled(s, vars, a))
	}
	return t
}

func wantSettledClaim(s api.Sign, vars []api.Var, c api.Claim) api.Claim {
	terms, subs := c.Terms, c.Subs
	c.Terms, c.Subs = nil, nil
	for _, t := range terms {
		c.Terms = append(c.Terms, wantSettled(s, vars, t))
	}
	for _, sub := range subs {
		c.Subs = append(c.Subs, wantSettledClaim(s, vars, sub))
	}
	return c
}

// wantWhole is what a text is read as by one of the model's functions, before it is settled.
func wantWhole(s string, part func(*model, int, around) []derived) (derived, int, api.Errno) {
	l, at, e := token.Of(s)
	if e != 0 {
		return derived{}, at, e
	}
	x, at, e, _ := want(l, 0, part)
	if e == 0 && at == len(l) {
		return x, 0, 0
	}
	if e == 0 {
		e = api.ErrForm
	}
	if at == len(l) {
		return derived{}, len(s), e
	}
	return derived{}, l[at].At, e
}

func wantTerm(s api.Sign, vars []api.Var, text string) (api.Term, int, api.Errno) {
	x, at, e := wantWhole(text, (*model).sum)
	if e != 0 {
		return api.Term{}, at, e
	}
	t := wantSettled(s, vars, x.term)
	if _, _, e := well.Term(s, vars, t); e != 0 {
		return api.Term{}, 0, e
	}
	return t, 0, 0
}

func wantClaim(s api.Sign, vars []api.Var, text string) (api.Claim, int, api.Errno) {
	x, at, e := wantWhole(text, (*model).claim)
	if e != 0 {
		return api.Claim{}, at, e
	}
	c := wantSettledClaim(s, vars, x.claim)
	if _, e := well.Claim(s, vars, c); e != 0 {
		return api.Claim{}, 0, e
	}
	return c, 0, 0
}

// answer is what a call answers beside a term or a claim.
type answer struct {
	at  int
	err api.Errno
}

func (a answer) text() string { return strconv.Itoa(a.at) + " " + strconv.Itoa(int(a.err)) }

// check holds what the call answers against want, twice, the arguments against what they were, and the memory of the answers against theirs and each other's.
func check(t *testing.T, what string, call func() (sample.Data, answer), want sample.Data, end answer, arguments sample.Data) {
	t.Helper()
	var got [2]sample.Data
	var ends [2]answer
	said := arguments.Changed(func() {
		for i := range got {
			got[i], ends[i] = call()
		}
	})
	if said != "" {
		t.Errorf("%s: %s", what, said)
	}
	for i := range got {
		if !got[i].Equal(want) || ends[i] != end {
			t.Errorf("%s gives %s at %s; want %s at %s", what, got[i].Text(), ends[i].text(), want.Text(), end.text())
		}
	}
	if got[0].With(got[1]).Shares(arguments) {
		t.Errorf("%s shares memory", what)
	}
}

// quoted is s in quotes, without most of a long text.
func quoted(s string) string { return strconv.Quote(s[:min(len(s), 400)]) }

// tokensText are the first tokens of l; what its own Kind would not have has its Kind behind it.
func tokensText(l []api.Token) string {
	s := ""
	for _, x := range l[:min(len(l), 80)] {
		s += x.Text
		if _, e := strconv.Atoi(x.Text); x.Kind < 1 || x.Kind > 3 || (e == nil) != (x.Kind == 2) {
			s += "/" + strconv.Itoa(x.Kind)
		}
		s += " "
	}
	return quoted(s)
}

// unchanged calls f and tells of tokens that it changed.
func unchanged(t *testing.T, l []api.Token, f func()) {
	t.Helper()
	before := slices.Clone(l)
	f()
	if !slices.Equal(l, before) {
		t.Error("changed", tokensText(before))
	}
}

func checkTermAt(t *testing.T, l []api.Token, at int, want api.Term, end int, e api.Errno) {
	t.Helper()
	unchanged(t, l, func() {
		call := func() (sample.Data, answer) {
			got, end, e := TermAt(l, at)
			return sample.Terms(got), answer{end, e}
		}
		check(t, "the term of "+tokensText(l)+" from "+strconv.Itoa(at), call, sample.Terms(want), answer{end, e}, sample.Data{})
	})
}

func checkClaimAt(t *testing.T, l []api.Token, at int, want api.Claim, end int, e api.Errno) {
	t.Helper()
	unchanged(t, l, func() {
		call := func() (sample.Data, answer) {
			got, end, e := ClaimAt(l, at)
			return sample.Claims(got), answer{end, e}
		}
		check(t, "the claim of "+tokensText(l)+" from "+strconv.Itoa(at), call, sample.Claims(want), answer{end, e}, sample.Data{})
	})
}

func checkVarAt(t *testing.T, l []api.Token, at int, want api.Var, end int, e api.Errno) {
	t.Helper()
	unchanged(t, l, func() {
		for range 2 {
			if got, end2, e2 := VarAt(l, at); got != want || end2 != end || e2 != e {
				t.Errorf("the var of %s from %d gives %v at %d, %d; want %v at %d, %d", tokensText(l), at, got, end2, e2, want, end, e)
			}
		}
	})
}

// followTerm holds TermAt against the model; it tells whether a token behind the last one would count.
func followTerm(t *testing.T, l []api.Token, at int) bool {
	t.Helper()
	x, end, e, more := want(l, at, (*model).sum)
	checkTermAt(t, l, at, x.term, end, e)
	return more
}

// followClaim is followTerm for ClaimAt.
func followClaim(t *testing.T, l []api.Token, at int) bool {
	t.Helper()
	x, end, e, more := want(l, at, (*model).claim)
	checkClaimAt(t, l, at, x.claim, end, e)
	return more
}

// followAll holds all calls that take tokens against the model.
func followAll(t *testing.T, l []api.Token, at int) {
	t.Helper()
	followTerm(t, l, at)
	followClaim(t, l, at)
	x, end, e := wantVar(l, at)
	checkVarAt(t, l, at, x, end, e)
}

func checkTerm(t *testing.T, s api.Sign, vars []api.Var, text string, want api.Term, at int, e api.Errno) {
	t.Helper()
	call := func() (sample.Data, answer) {
		got, at, e := Term(s, vars, text)
		return sample.Terms(got), answer{at, e}
	}
	check(t, "the term "+quoted(text), call, sample.Terms(want), answer{at, e}, settings(s, vars))
}

func checkClaim(t *testing.T, s api.Sign, vars []api.Var, text string, want api.Claim, at int, e api.Errno) {
	t.Helper()
	call := func() (sample.Data, answer) {
		got, at, e := Claim(s, vars, text)
		return sample.Claims(got), answer{at, e}
	}
	check(t, "the claim "+quoted(text), call, sample.Claims(want), answer{at, e}, settings(s, vars))
}

// settings are a signature and variables as data.
func settings(s api.Sign, vars []api.Var) sample.Data {
	return sample.Data{Signs: []api.Sign{s}, Vars: [][]api.Var{vars}}
}

// followText holds Term and Claim against the model.
func followText(t *testing.T, s api.Sign, vars []api.Var, text string) {
	t.Helper()
	x, at, e := wantTerm(s, vars, text)
	checkTerm(t, s, vars, text, x, at, e)
	c, at, e := wantClaim(s, vars, text)
	checkClaim(t, s, vars, text, c, at, e)
}

func checkSettle(t *testing.T, s api.Sign, vars []api.Var, c, want api.Claim) {
	t.Helper()
	arguments := settings(s, vars).With(sample.Claims(c))
	if said := sample.Wrong(func() sample.Data { return sample.Claims(Settle(s, vars, c)) }, sample.Claims(want), arguments); said != "" {
		t.Error(said)
	}
}

func checkSettleTerm(t *testing.T, s api.Sign, vars []api.Var, x, want api.Term) {
	t.Helper()
	arguments := settings(s, vars).With(sample.Terms(x))
	if said := sample.Wrong(func() sample.Data { return sample.Terms(SettleTerm(s, vars, x)) }, sample.Terms(want), arguments); said != "" {
		t.Error(said)
	}
}
