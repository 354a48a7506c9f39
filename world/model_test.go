package world

import (
	"fmt"
	"math/big"
	"slices"
	"strconv"
	"testing"

	"sequitur/api"
	"sequitur/sample"
	"sequitur/show"
	"sequitur/sign"
	"sequitur/well"
)

// setting is what a term, a claim or a sequent is evaluated in.
type setting struct {
	sign  api.Sign
	world World
	vars  list
	env   []Bind
}

// with is in with other bindings.
func (in setting) with(env ...Bind) setting {
	in.env = env
	return in
}

// of is in with other variables.
func (in setting) of(vars list) setting {
	in.vars = vars
	return in
}

// What the chapter says, word by word, with nothing of the package in it.

// wantSize is how many values a sort has, 0 if it is not known; Int counts as not known.
func wantSize(s api.Sign, sizes []int, sort api.Sort) int {
	for i, name := range s.Sorts {
		if name == sort {
			return sizes[i]
		}
	}
	return map[api.Sort]int{"Bool": 2}[sort]
}

func wantInt(f api.Fun) bool { return f.Res == "Int" || slices.Contains(f.Args, "Int") }

func wantLength(s api.Sign, sizes []int, f api.Fun) int {
	n := 1
	for _, a := range f.Args {
		n *= wantSize(s, sizes, a)
	}
	return n
}

func wantSizes(s api.Sign, sizes []int) api.Errno {
	if e := sign.Right(s); e != 0 {
		return e
	}
	if len(sizes) != len(s.Sorts) {
		return 1
	}
	for _, n := range sizes {
		if !slices.Contains([]int{1, 2, 3, 4, 5, 6, 7, 8}, n) {
			return 1
		}
	}
	return 0
}

func wantRight(s api.Sign, w World) api.Errno {
	if e := wantSizes(s, w.Sizes); e != 0 {
		return e
	}
	if len(w.Tables) != len(s.Funs) {
		return 1
	}
	for i, f := range s.Funs {
		if wantInt(f) {
			if len(w.Tables[i]) > 0 {
				return 1
			}
			continue
		}
		if wantLength(s, w.Sizes, f) > 4096 {
			return 2
		}
		if len(w.Tables[i]) != wantLength(s, w.Sizes, f) {
			return 1
		}
		for _, n := range w.Tables[i] {
			if n < 0 || n > wantSize(s, w.Sizes, f.Res)-1 {
				return 1
			}
		}
	}
	return 0
}

// call is what pick is passed.
type call struct{ fun, at, most int }

// wantMake also tells the calls of pick.
func wantMake(s api.Sign, sizes []int, pick func(fun, at, most int) int) (World, []call, api.Errno) {
	if e := wantSizes(s, sizes); e != 0 {
		return World{}, nil, e
	}
	w := World{Sizes: slices.Clone(sizes)}
	var calls []call
	for i, f := range s.Funs {
		var table []int
		n := wantLength(s, sizes, f)
		if wantInt(f) {
			n = 0
		}
		if n > 4096 {
			return World{}, nil, 2
		}
		for at := range n {
			most := wantSize(s, sizes, f.Res)
			m := new(big.Int).Mod(big.NewInt(int64(pick(i, at, most))), big.NewInt(int64(most)))
			table = append(table, int(m.Int64()))
			calls = append(calls, call{i, at, most})
		}
		w.Tables = append(w.Tables, table)
	}
	return w, calls, 0
}

// variable is the value of the variable with that name.
func (in setting) variable(name string) (int64, api.Errno) {
	at := slices.IndexFunc(in.vars, func(v api.Var) bool { return v.Name == name })
	sort := in.vars[at].Sort
	for _, x := range in.env {
		if x.Name == name {
			if sort == "Int" || x.Val >= 0 && x.Val <= int64(wantSize(in.sign, in.world.Sizes, sort))-1 {
				return x.Val, 0
			}
			return 0, 3
		}
	}
	return 0, 3
}

// entry is what the function with that name, or the predicate, yields for args.
func (in setting) entry(name string, args []int64) (int64, api.Errno) {
	i := slices.IndexFunc(in.sign.Funs, func(f api.Fun) bool { return f.Name == name })
	f := in.sign.Funs[i]
	if wantInt(f) {
		return 0, 1
	}
	at, step := 0, 1
	for k := len(args) - 1; k >= 0; k-- {
		at += int(args[k]) * step
		step *= wantSize(in.sign, in.world.Sizes, f.Args[k])
	}
	return int64(in.world.Tables[i][at]), 0
}

func fits(n *big.Int) (int64, api.Errno) {
	if !n.IsInt64() {
		return 0, 5
	}
	return n.Int64(), 0
}

// value is the value of a part of a term within binders that have these values, the innermost last.
func (in setting) value(t api.Term, binders []int64) (int64, api.Errno) {
	args, e := in.values(t.Args, binders)
	if e != 0 {
		return 0, e
	}
	var l []*big.Int
	for _, n := range append(args, t.Num) {
		l = append(l, big.NewInt(n))
	}
	z := new(big.Int)
	switch t.Op {
	case 1:
		return in.variable(t.Name)
	case 2:
		return binders[len(binders)-1-int(t.Num)], 0
	case 3:
		return in.entry(t.Name, args)
	case 5:
		return fits(z.Add(l[0], l[1]))
	case 6:
		return fits(z.Sub(l[0], l[1]))
	case 7:
		return fits(z.Neg(l[0]))
	case 8:
		return fits(z.Mul(l[0], l[1]))
	}
	return t.Num, 0
}

func (in setting) values(l []api.Term, binders []int64) ([]int64, api.Errno) {
	var of []int64
	for _, t := range l {
		n, e := in.value(t, binders)
		if e != 0 {
			return nil, e
		}
		of = append(of, n)
	}
	return of, 0
}

// truth is whether a part of a claim holds within binders that have these values.
func (in setting) truth(c api.Claim, binders []int64) (bool, api.Errno) {
	terms, e := in.values(c.Terms, binders)
	if e != 0 {
		return false, e
	}
	var subs []bool
	add := func(s api.Claim, binders ...int64) {
		if e == 0 {
			var holds bool
			holds, e = in.truth(s, binders)
			subs = append(subs, holds)
		}
	}
	switch {
	case c.Op < 11:
		for _, s := range c.Subs {
			add(s, binders...)
		}
	case c.Sort == "Int":
		return false, 1
	default:
		for v := range wantSize(in.sign, in.world.Sizes, c.Sort) {
			add(c.Subs[0], append(slices.Clone(binders), int64(v))...)
		}
	}
	if e != 0 {
		return false, e
	}
	switch c.Op {
	case 3:
		n, e := in.entry(c.Name, terms)
		return n == 1, e
	case 4:
		return terms[0] == terms[1], 0
	case 5:
		return terms[0] <= terms[1], 0
	case 6:
		return !subs[0], 0
	case 7:
		return subs[0] && subs[1], 0
	case 8:
		return subs[0] || subs[1], 0
	case 9:
		return !subs[0] || subs[1], 0
	case 10:
		return subs[0] == subs[1], 0
	case 11:
		return !slices.Contains(subs, false), 0
	case 12:
		return slices.Contains(subs, true), 0
	}
	return c.Op == 1, 0
}

func wantTerm(in setting, t api.Term) (int64, api.Errno) {
	if e := wantRight(in.sign, in.world); e != 0 {
		return 0, e
	}
	if _, _, e := well.Term(in.sign, in.vars, t); e != 0 {
		return 0, e
	}
	return in.value(t, nil)
}

func wantClaim(in setting, c api.Claim) (bool, api.Errno) {
	if e := wantRight(in.sign, in.world); e != 0 {
		return false, e
	}
	if _, e := well.Claim(in.sign, in.vars, c); e != 0 {
		return false, e
	}
	return in.truth(c, nil)
}

// wantSeq takes the variables from q.
func wantSeq(in setting, q api.Seq) (bool, api.Errno) {
	given := true
	for _, h := range q.Hyps {
		holds, e := wantClaim(in.of(q.Vars), h.Claim)
		if e != 0 {
			return false, e
		}
		given = given && holds
	}
	holds, e := wantClaim(in.of(q.Vars), q.Goal)
	return (!given || holds) && e == 0, e
}

// wantAll takes the variables from q.
func wantAll(in setting, q api.Seq) (bool, api.Errno) {
	if e := wantRight(in.sign, in.world); e != 0 {
		return false, e
	}
	for _, v := range q.Vars {
		if !slices.Contains(in.sign.Sorts, v.Sort) {
			return false, 1
		}
	}
	all := [][]Bind{nil}
	for _, v := range q.Vars {
		var longer [][]Bind
		for _, env := range all {
			for n := range wantSize(in.sign, in.world.Sizes, v.Sort) {
				longer = append(longer, append(slices.Clone(env), Bind{v.Name, int64(n)}))
			}
		}
		if all = longer; len(all) > 4096 {
			return false, 2
		}
	}
	whole := true
	for _, env := range all {
		holds, e := wantSeq(in.with(env...), q)
		if e != 0 {
			return false, e
		}
		whole = whole && holds
	}
	return whole, 0
}

// What a call may not change.

func twinWorld(w World) World {
	w.Sizes = slices.Clone(w.Sizes)
	w.Tables = slices.Clone(w.Tables)
	for i, l := range w.Tables {
		w.Tables[i] = slices.Clone(l)
	}
	return w
}

func equalWorlds(a, b World) bool {
	return slices.Equal(a.Sizes, b.Sizes) && slices.EqualFunc(a.Tables, b.Tables, slices.Equal)
}

// identicalWorlds also tells a nil list from an empty one.
func identicalWorlds(a, b World) bool {
	same := func(a, b []int) bool { return slices.Equal(a, b) && (a == nil) == (b == nil) }
	return same(a.Sizes, b.Sizes) && (a.Tables == nil) == (b.Tables == nil) && slices.EqualFunc(a.Tables, b.Tables, same)
}

// claimsOf are the claims of q, in the memory of q.
func claimsOf(q api.Seq) []api.Claim {
	var l []api.Claim
	for _, h := range q.Hyps {
		l = append(l, h.Claim)
	}
	return append(l, q.Goal)
}

// changed calls f and tells what of the arguments it changed; nothing if it changed none.
func changed(in setting, q api.Seq, f func()) string {
	world, env, hyps := twinWorld(in.world), slices.Clone(in.env), slices.Clone(q.Hyps)
	d := sample.Data{Signs: []api.Sign{in.sign}, Vars: []list{in.vars, q.Vars}, Claims: claimsOf(q)}
	said := d.Changed(f)
	sameHyp := func(a, b api.Hyp) bool { return a.Name == b.Name && sample.EqualClaims(a.Claim, b.Claim) }
	switch {
	case !identicalWorlds(in.world, world):
		return "another world"
	case !slices.Equal(in.env, env) || (in.env == nil) != (env == nil):
		return "other bindings"
	case !slices.EqualFunc(q.Hyps, hyps, sameHyp):
		return "other hypotheses"
	}
	return said
}

// holdCall calls f, which is to answer want and change nothing.
func holdCall(t *testing.T, name string, in setting, q api.Seq, f func() (int64, api.Errno), want int64, e api.Errno) {
	t.Helper()
	var got int64
	var err api.Errno
	said := changed(in, q, func() { got, err = f() })
	if said != "" || got != want || err != e {
		t.Errorf("%s of %s: %d, %d; want %d, %d; %s; world %.80s, variables %v, bindings %v", name, seqText(q), got, err, want, e, said, fmt.Sprint(in.world), in.vars[:min(9, len(in.vars))], in.env[:min(9, len(in.env))])
	}
}

func seqText(q api.Seq) string {
	s := sample.ClaimTexts(claimsOf(q))
	for _, c := range claimsOf(q) {
		s += "; " + show.Claim(c)
	}
	return s[:min(len(s), 600)]
}

func number(holds bool) int64 {
	if holds {
		return 1
	}
	return 0
}

func checkTerm(t *testing.T, in setting, x api.Term, want int64, e api.Errno) {
	t.Helper()
	holdCall(t, "Term", in, api.Seq{Goal: api.Claim{Terms: []api.Term{x}}}, func() (int64, api.Errno) { return Term(in.sign, in.world, in.vars, in.env, x) }, want, e)
}

func checkClaim(t *testing.T, in setting, c api.Claim, want bool, e api.Errno) {
	t.Helper()
	holdCall(t, "Claim", in, api.Seq{Goal: c}, func() (int64, api.Errno) {
		holds, e := Claim(in.sign, in.world, in.vars, in.env, c)
		return number(holds), e
	}, number(want), e)
}

func checkSeq(t *testing.T, in setting, q api.Seq, want bool, e api.Errno) {
	t.Helper()
	holdCall(t, "Seq", in, q, func() (int64, api.Errno) {
		holds, e := Seq(in.sign, in.world, in.env, q)
		return number(holds), e
	}, number(want), e)
}

func checkAll(t *testing.T, in setting, q api.Seq, want bool, e api.Errno) {
	t.Helper()
	holdCall(t, "All", in, q, func() (int64, api.Errno) {
		holds, e := All(in.sign, in.world, q)
		return number(holds), e
	}, number(want), e)
}

func checkRight(t *testing.T, s api.Sign, w World, e api.Errno) {
	t.Helper()
	holdCall(t, "Right", setting{sign: s, world: w}, api.Seq{}, func() (int64, api.Errno) { return 0, Right(s, w) }, 0, e)
}

// followTerm holds Term against the chapter, and tells what it says.
func followTerm(t *testing.T, in setting, x api.Term) (int64, api.Errno) {
	t.Helper()
	want, e := wantTerm(in, x)
	checkTerm(t, in, x, want, e)
	return want, e
}

// followClaim holds Claim against the chapter, and Seq with the claim as its goal and as its hypothesis.
func followClaim(t *testing.T, in setting, c api.Claim) (bool, api.Errno) {
	t.Helper()
	want, e := wantClaim(in, c)
	checkClaim(t, in, c, want, e)
	checkSeq(t, in, api.Seq{Vars: in.vars, Goal: c}, want, e)
	checkSeq(t, in, api.Seq{Vars: in.vars, Hyps: []api.Hyp{{Claim: c}}, Goal: never()}, !want && e == 0, e)
	return want, e
}

// followSeq holds Seq and All against the chapter, and tells what it says of All.
func followSeq(t *testing.T, in setting, q api.Seq) (bool, api.Errno) {
	t.Helper()
	want, e := wantSeq(in, q)
	checkSeq(t, in, q, want, e)
	want, e = wantAll(in, q)
	checkAll(t, in, q, want, e)
	return want, e
}

func followRight(t *testing.T, s api.Sign, w World) api.Errno {
	t.Helper()
	want := wantRight(s, w)
	checkRight(t, s, w, want)
	return want
}

// followMake holds Make against the chapter, with the calls of pick.
func followMake(t *testing.T, s api.Sign, sizes []int, pick func(fun, at, most int) int) api.Errno {
	t.Helper()
	want, wantCalls, e := wantMake(s, sizes, pick)
	var calls []call
	var got World
	var err api.Errno
	noted := func(fun, at, most int) int {
		calls = append(calls, call{fun, at, most})
		return pick(fun, at, most)
	}
	said := changed(setting{sign: s, world: World{Sizes: sizes}}, api.Seq{}, func() { got, err = Make(s, sizes, noted) })
	if said != "" || err != e || !equalWorlds(got, want) || !slices.Equal(calls, wantCalls) {
		t.Error(sample.SignText(s), sizes, said, err, e, len(calls), len(wantCalls), fmt.Sprintf("%.200s; want %.200s", fmt.Sprint(got), fmt.Sprint(want)))
	}
	if e == 0 {
		checkRight(t, s, got, 0)
	}
	return e
}

// worldOf is the world of s that Make makes with these sizes.
func worldOf(s api.Sign, pick func(fun, at, most int) int, sizes ...int) World {
	w, e := Make(s, sizes, pick)
	if e != 0 {
		panic("no world: error " + strconv.Itoa(int(e)))
	}
	return w
}

// often reports errors of which too few were found.
func often(t *testing.T, found map[api.Errno]int, least int, errors ...api.Errno) {
	t.Helper()
	if rare := sample.Rare(found, least, errors...); len(rare) > 0 {
		t.Error("too few of", rare, found)
	}
}
