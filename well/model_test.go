package well

import (
	"fmt"
	"slices"
	"strconv"
	"testing"

	"sequitur/api"
	"sequitur/claim"
	"sequitur/sample"
	"sequitur/term"
)

// setting is what a term or a claim stands in; a claim in no binders.
type setting struct {
	sign    api.Sign
	vars    list
	binders []api.Sort
}

func (in setting) data() sample.Data {
	return sample.Data{Signs: []api.Sign{in.sign}, Vars: []list{in.vars}, Names: [][]string{in.binders}}
}

// within is in with other binders.
func (in setting) within(binders ...api.Sort) setting {
	in.binders = binders
	return in
}

// with is in with more variables.
func (in setting) with(l string) setting {
	in.vars = slices.Concat(in.vars, free(l))
	return in
}

// usual is the setting of most tests: c, f, g, h and d are functions, p, q and r predicates, x, y, z, i and j variables.
func usual() setting {
	s := sg("A B", fn("c", "", "A"), fn("f", "A", "A"), fn("g", "A B", "B"), fn("h", "A Int B", "Int"), fn("d", "", "B"), fn("p", "B", "Bool"), fn("q", "A Int", "Bool"), fn("r", "", "Bool"))
	return setting{sign: s, vars: free("x A, y A, z B, i Int, j Int")}
}

// answer is what a call answers.
type answer struct {
	sort api.Sort
	at   path
	e    api.Errno
}

func (a answer) data() sample.Data {
	return sample.Data{Names: [][]string{{a.sort, fmt.Sprint(a.at), strconv.Itoa(int(a.e))}}}
}

// What the chapter says, word by word, with nothing of the package in it.

func wantKnown(s api.Sign, sort api.Sort) bool {
	return sort == "Int" || sort == "Bool" || slices.Contains(s.Sorts, sort)
}

func wantFun(s api.Sign, name string) (api.Fun, bool) {
	for _, f := range s.Funs {
		if f.Name == name {
			return f, true
		}
	}
	return api.Fun{}, false
}

func wantVar(l list, name string) (api.Sort, bool) {
	for _, x := range l {
		if x.Name == name {
			return x.Sort, true
		}
	}
	return "", false
}

func wantVars(s api.Sign, l list) api.Errno {
	if len(l) > 256 {
		return 2
	}
	for i, x := range l {
		if _, ok := wantFun(s, x.Name); !sample.Named(x.Name) || ok {
			return 10
		}
		if !wantKnown(s, x.Sort) || x.Sort == "Bool" {
			return 11
		}
		if _, ok := wantVar(l[:i], x.Name); ok {
			return 4
		}
	}
	return 0
}

// wantSort is the sort of a part if all is well below it.
func wantSort(in setting, t api.Term) api.Sort {
	switch t.Op {
	case 1:
		s, _ := wantVar(in.vars, t.Name)
		return s
	case 2:
		return in.binders[len(in.binders)-1-int(t.Num)]
	case 3:
		f, _ := wantFun(in.sign, t.Name)
		return f.Res
	}
	return "Int"
}

// differs is the path to the first of the terms that has not the sort wanted, and the error.
func differs(in setting, l []api.Term, wanted func(i int) api.Sort) (path, api.Errno) {
	for i, t := range l {
		if wantSort(in, t) != wanted(i) {
			return path{i}, 11
		}
	}
	return nil, 0
}

func always(s api.Sort) func(int) api.Sort { return func(int) api.Sort { return s } }

// applied is the error of a function, or a predicate, of the terms, and the path to it.
func applied(in setting, name string, l []api.Term, predicate bool) (path, api.Errno) {
	f, ok := wantFun(in.sign, name)
	if !ok || (f.Res == "Bool") != predicate {
		return nil, 10
	}
	if len(f.Args) != len(l) {
		return nil, 12
	}
	return differs(in, l, func(i int) api.Sort { return f.Args[i] })
}

// step is one check of the part at a path; it tells the error, if there is one, and the path to it from there.
type step struct {
	at    path
	check func() (path, api.Errno)
}

// to is the path at with more behind it, in new memory.
func to(at path, more ...int) path { return slices.Concat(at, more) }

// termSteps are the checks of the parts of t, in order.
func termSteps(in setting, t api.Term, at path) []step {
	var l []step
	for i, a := range t.Args {
		l = append(l, termSteps(in, a, to(at, i))...)
	}
	return append(l, step{at, func() (path, api.Errno) {
		switch t.Op {
		case 1:
			if _, ok := wantVar(in.vars, t.Name); !ok {
				return nil, 10
			}
		case 2:
			if t.Num >= int64(len(in.binders)) {
				return nil, 13
			}
		case 3:
			return applied(in, t.Name, t.Args, false)
		case 5, 6, 7, 8:
			return differs(in, t.Args, always("Int"))
		}
		return nil, 0
	}})
}

// claimSteps are the checks of the parts of c, in order.
func claimSteps(in setting, c api.Claim, at path) []step {
	var l []step
	for i, t := range c.Terms {
		l = append(l, termSteps(in, t, to(at, i))...)
	}
	inner := in
	if c.Op == 11 || c.Op == 12 {
		inner = in.within(slices.Concat(in.binders, []api.Sort{c.Sort})...)
		l = append(l, step{at, func() (path, api.Errno) {
			if c.Sort == "Bool" || !wantKnown(in.sign, c.Sort) {
				return nil, 11
			}
			return nil, 0
		}})
	}
	for i, s := range c.Subs {
		l = append(l, claimSteps(inner, s, to(at, i+len(c.Terms)))...)
	}
	return append(l, step{at, func() (path, api.Errno) {
		switch c.Op {
		case 3:
			return applied(in, c.Name, c.Terms, true)
		case 4:
			return differs(in, c.Terms, always(wantSort(in, c.Terms[0])))
		case 5:
			return differs(in, c.Terms, always("Int"))
		}
		return nil, 0
	}})
}

// first is the first failure of the steps.
func first(l []step) (path, api.Errno) {
	for _, s := range l {
		if more, e := s.check(); e != 0 {
			return to(s.at, more...), e
		}
	}
	return nil, 0
}

func wantTerm(in setting, t api.Term) answer {
	if e := term.Right(t); e != 0 {
		return answer{e: e}
	}
	at, e := first(termSteps(in, t, nil))
	if e != 0 {
		return answer{"", at, e}
	}
	return answer{sort: wantSort(in, t)}
}

func wantClaim(in setting, c api.Claim) answer {
	if e := claim.Right(c); e != 0 {
		return answer{e: e}
	}
	at, e := first(claimSteps(in.within(), c, nil))
	return answer{"", at, e}
}

// check holds what f answers against want, and the arguments against what they were.
func check(t *testing.T, call string, f func() answer, want answer, arguments sample.Data) {
	t.Helper()
	if said := sample.Wrong(func() sample.Data { return f().data() }, want.data(), arguments); said != "" {
		t.Errorf("%s: %s", call, said)
	}
}

func checkVars(t *testing.T, s api.Sign, l list, want api.Errno) {
	t.Helper()
	check(t, "Vars", func() answer { return answer{e: Vars(s, l)} }, answer{e: want}, sample.Data{Signs: []api.Sign{s}, Vars: []list{l}})
}

func followVars(t *testing.T, s api.Sign, l list) api.Errno {
	t.Helper()
	want := wantVars(s, l)
	checkVars(t, s, l, want)
	return want
}

// holdTerm holds Within against want, Term if there are no binders, and Claim of an equation of the term with itself within such binders.
func holdTerm(t *testing.T, in setting, x api.Term, want answer) {
	t.Helper()
	arguments := in.data().With(sample.Terms(x))
	check(t, "Within", func() answer {
		sort, at, e := Within(in.sign, in.vars, in.binders, x)
		return answer{sort, at, e}
	}, want, arguments)
	if len(in.binders) == 0 {
		check(t, "Term", func() answer {
			sort, at, e := Term(in.sign, in.vars, x)
			return answer{sort, at, e}
		}, want, arguments)
	}
	if len(in.binders) > 63 {
		return
	}
	c := eq(x, x)
	for _, s := range slices.Backward(in.binders) {
		if c = exists("e", s, c); s == "Bool" || !wantKnown(in.sign, s) {
			return
		}
	}
	if claim.Right(c) == 0 {
		inClaim := answer{e: want.e}
		if want.e != 0 {
			inClaim.at = to(make(path, len(in.binders)+1), want.at...)
		}
		holdClaim(t, in, c, inClaim)
	}
}

func rightTerm(t *testing.T, in setting, x api.Term, sort api.Sort) {
	t.Helper()
	holdTerm(t, in, x, answer{sort: sort})
}

func failTerm(t *testing.T, in setting, x api.Term, e api.Errno, at ...int) {
	t.Helper()
	holdTerm(t, in, x, answer{"", at, e})
}

func followTerm(t *testing.T, in setting, x api.Term) answer {
	t.Helper()
	want := wantTerm(in, x)
	holdTerm(t, in, x, want)
	return want
}

func holdClaim(t *testing.T, in setting, c api.Claim, want answer) {
	t.Helper()
	check(t, "Claim", func() answer {
		at, e := Claim(in.sign, in.vars, c)
		return answer{"", at, e}
	}, want, in.within().data().With(sample.Claims(c)))
}

func rightClaim(t *testing.T, in setting, c api.Claim) {
	t.Helper()
	holdClaim(t, in, c, answer{})
}

func failClaim(t *testing.T, in setting, c api.Claim, e api.Errno, at ...int) {
	t.Helper()
	holdClaim(t, in, c, answer{"", at, e})
}

func followClaim(t *testing.T, in setting, c api.Claim) answer {
	t.Helper()
	want := wantClaim(in, c)
	holdClaim(t, in, c, want)
	return want
}
