package well

import (
	"slices"

	"sequitur/api"
	"sequitur/sign"
)

// checker checks what lies within its binders.
// Its methods are passed the path to what they check, and return the path to the first error and its code.
type checker struct {
	sign    api.Sign
	sortOf  func(name string) (api.Sort, bool) // of a variable
	binders []api.Sort                         // the innermost last
}

// claim checks the part p of a right claim.
func (c checker) claim(p api.Claim, path []int) ([]int, api.Errno) {
	given, at, e := c.terms(p.Terms, path)
	if e != api.OK {
		return at, e
	}
	if p.Op == api.CAll || p.Op == api.CEx {
		if !ranges(c.sign, p.Sort) {
			return path, api.ErrSort
		}
		c.binders = append(slices.Clip(c.binders), p.Sort)
	}
	for i, s := range p.Subs {
		if at, e := c.claim(s, below(path, len(p.Terms)+i)); e != api.OK {
			return at, e
		}
	}
	wanted, e := c.wanted(p, given)
	if e != api.OK {
		return path, e
	}
	return unlike(given, wanted, path)
}

// wanted returns the sorts that the Terms of p have to have, if they have the sorts given.
func (c checker) wanted(p api.Claim, given []api.Sort) ([]api.Sort, api.Errno) {
	switch p.Op {
	case api.CPred:
		f, e := c.function(p.Name, len(given), true)
		return f.Args, e
	case api.CEq:
		return []api.Sort{given[0], given[0]}, api.OK
	case api.CLe:
		return []api.Sort{api.Int, api.Int}, api.OK
	}
	return nil, api.OK
}

// terms also returns the sorts of l, the Args or Terms of what is at path.
func (c checker) terms(l []api.Term, path []int) ([]api.Sort, []int, api.Errno) {
	of := make([]api.Sort, len(l))
	for i, t := range l {
		s, at, e := c.term(t, below(path, i))
		if e != api.OK {
			return nil, at, e
		}
		of[i] = s
	}
	return of, nil, api.OK
}

// term also returns the sort of the part t of a right term.
func (c checker) term(t api.Term, path []int) (api.Sort, []int, api.Errno) {
	given, at, e := c.terms(t.Args, path)
	if e != api.OK {
		return "", at, e
	}
	f, e := c.operator(t)
	if e != api.OK {
		return "", path, e
	}
	if at, e := unlike(given, f.Args, path); e != api.OK {
		return "", at, e
	}
	return f.Res, nil, api.OK
}

// operator returns what makes t of its Args, whatever sorts these have, as a function.
func (c checker) operator(t api.Term) (api.Fun, api.Errno) {
	switch t.Op {
	case api.TVar:
		s, ok := c.sortOf(t.Name)
		if !ok {
			return api.Fun{}, api.ErrName
		}
		return api.Fun{Res: s}, api.OK
	case api.TBound:
		if t.Num >= int64(len(c.binders)) {
			return api.Fun{}, api.ErrBound
		}
		return api.Fun{Res: c.binders[len(c.binders)-1-int(t.Num)]}, api.OK
	case api.TApp:
		return c.function(t.Name, len(t.Args), false)
	}
	return api.Fun{Args: slices.Repeat([]api.Sort{api.Int}, len(t.Args)), Res: api.Int}, api.OK
}

// function returns the function with that name, which has to take n arguments and to be a predicate or none.
func (c checker) function(name string, n int, predicate bool) (api.Fun, api.Errno) {
	f, ok := sign.Find(c.sign, name)
	switch {
	case !ok || (f.Res == api.Bool) != predicate:
		return api.Fun{}, api.ErrName
	case len(f.Args) != n:
		return api.Fun{}, api.ErrArity
	}
	return f, api.OK
}

// unlike returns the path to the first part right below path whose sort, as given, is not the one wanted.
func unlike(given, wanted []api.Sort, path []int) ([]int, api.Errno) {
	for i, s := range wanted {
		if given[i] != s {
			return below(path, i), api.ErrSort
		}
	}
	return nil, api.OK
}

// below is the path to the part with that position right below path, in new memory: paths to other parts may begin as path does.
func below(path []int, position int) []int {
	return append(path[:len(path):len(path)], position)
}
