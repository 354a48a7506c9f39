package world

import (
	"slices"

	"sequitur/api"
	"sequitur/bind"
	"sequitur/claim"
	"sequitur/num"
	"sequitur/well"
)

// builder makes the values of terms and claims that are well sorted.
// Values stand in slots: first those of the variables, in their order, then those of the binders around a part, the innermost last.
type builder struct {
	sign   api.Sign
	world  World
	places map[string]int // the slot of each variable that has a value
	counts []int          // how many values each slot takes on, one after another
}

// settled returns the builder for variables that keep the values env gives them, and these values.
func settled(s api.Sign, w World, vars []api.Var, env []Bind) (*builder, []int64) {
	b := &builder{sign: s, world: w, places: map[string]int{}, counts: slices.Repeat([]int{1}, len(vars))}
	given := map[string]int64{}
	for _, x := range slices.Backward(env) {
		given[x.Name] = x.Val
	}
	slots := make([]int64, len(vars), len(vars)+api.MaxDepth)
	for i, v := range slices.Backward(vars) {
		val, ok := given[v.Name]
		slots[i], b.places[v.Name] = val, i
		if !ok || !b.has(v.Sort, val) {
			delete(b.places, v.Name)
		}
	}
	return b, slots
}

// has tells whether the sort has that value.
func (b *builder) has(of api.Sort, val int64) bool {
	return of == api.Int || val >= 0 && val < int64(count(b.sign, b.world.Sizes, of))
}

func (b *builder) sequent(q api.Seq) value {
	hyps := make([]value, len(q.Hyps))
	for i, h := range q.Hyps {
		hyps[i] = b.checked(q.Vars, h.Claim)
	}
	return unless(hyps, b.checked(q.Vars, q.Goal))
}

// checked is the value of any claim, the error of one that is not well sorted.
func (b *builder) checked(vars []api.Var, c api.Claim) value {
	if _, e := well.Claim(b.sign, vars, c); e != api.OK {
		return failed(e)
	}
	return b.kept(c, b.claim(c))
}

func (b *builder) claim(c api.Claim) value {
	switch c.Op {
	case api.CTrue, api.CFalse:
		return constant(truth(c.Op == api.CTrue))
	case api.CPred:
		return b.applied(c.Name, c.Terms)
	case api.CEq, api.CLe:
		return both(b.term(c.Terms[0]), b.term(c.Terms[1]), relation(c.Op))
	case api.CNot:
		return both(b.claim(c.Subs[0]), constant(0), equal)
	case api.CAll, api.CEx:
		return b.kept(c, b.binder(c))
	}
	return both(b.claim(c.Subs[0]), b.claim(c.Subs[1]), relation(c.Op))
}

// relation returns what a claim with that Op says of the values of two terms or claims.
func relation(op int) func(x, y int64) (int64, bool) {
	switch op {
	case api.CEq, api.CIff:
		return equal
	case api.CLe, api.CImp:
		return ordered
	case api.CAnd:
		return lesser
	}
	return greater
}

func (b *builder) binder(c api.Claim) value {
	if c.Sort == api.Int {
		return failed(api.ErrArg)
	}
	n := count(b.sign, b.world.Sizes, c.Sort)
	if !slices.Contains(bind.Loose(c.Subs[0]), 0) {
		n = 1 // what holds for one value holds for all
	}
	b.counts = append(b.counts, n)
	sub := b.claim(c.Subs[0])
	b.counts = b.counts[:len(b.counts)-1]
	if c.Op == api.CAll {
		return enough(sub, n, n)
	}
	return enough(sub, n, 1)
}

// kept is f, the value of c, with its answers kept: many binders would else take far too long even where each part speaks of few of them.
func (b *builder) kept(c api.Claim, f value) value {
	type digit struct{ slot, weight int }
	type answer struct {
		val int64
		e   api.Errno
	}
	var digits []digit
	all := 1
	for _, slot := range b.used(c) {
		n := b.counts[slot]
		if n > 1 {
			digits = append(digits, digit{slot, all})
		}
		all *= n
		if all > mostEntries {
			return f
		}
	}
	answers := map[int]answer{}
	return func(slots []int64) (int64, api.Errno) {
		at := 0
		for _, d := range digits {
			at += d.weight * int(slots[d.slot])
		}
		a, ok := answers[at]
		if !ok {
			a.val, a.e = f(slots)
			answers[at] = a
		}
		return a.val, a.e
	}
}

// used returns the slots on which the value of c depends.
func (b *builder) used(c api.Claim) []int {
	var l []int
	for _, n := range bind.Loose(c) {
		l = append(l, len(b.counts)-1-n)
	}
	for _, name := range claim.Names(c) {
		if slot, ok := b.places[name]; ok {
			l = append(l, slot)
		}
	}
	return l
}

func (b *builder) term(t api.Term) value {
	switch t.Op {
	case api.TVar:
		if slot, ok := b.places[t.Name]; ok {
			return in(slot)
		}
		return failed(api.ErrNone)
	case api.TBound:
		return in(len(b.counts) - 1 - int(t.Num))
	case api.TApp:
		return b.applied(t.Name, t.Args)
	case api.TAdd:
		return both(b.term(t.Args[0]), b.term(t.Args[1]), num.Add)
	case api.TSub:
		return both(b.term(t.Args[0]), b.term(t.Args[1]), num.Sub)
	case api.TNeg:
		return both(constant(0), b.term(t.Args[0]), num.Sub)
	case api.TMul:
		return both(constant(t.Num), b.term(t.Args[0]), num.Mul)
	}
	return constant(t.Num)
}

// applied is the value of the function with that name, or of the predicate, for the terms.
func (b *builder) applied(name string, l []api.Term) value {
	i := slices.IndexFunc(b.sign.Funs, func(f api.Fun) bool { return f.Name == name })
	args, counts := make([]value, len(l)), make([]int, len(l))
	for k, of := range b.sign.Funs[i].Args {
		args[k], counts[k] = b.term(l[k]), count(b.sign, b.world.Sizes, of)
	}
	return entry(b.world.Tables[i], args, counts)
}
