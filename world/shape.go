package world

import (
	"iter"
	"slices"

	"sequitur/api"
	"sequitur/sign"
)

const (
	mostValues  = 8    // of a sort
	mostEntries = 4096 // of a table; combinations of values of variables, too
)

// shape is how many entries the table of a function has, and how many values each of them may have.
type shape struct{ entries, values int }

// sizesError returns the first error of s, and of the sizes as those of its sorts.
func sizesError(s api.Sign, sizes []int) api.Errno {
	if e := sign.Right(s); e != api.OK {
		return e
	}
	wrong := func(n int) bool { return n < 1 || n > mostValues }
	if len(sizes) != len(s.Sorts) || slices.ContainsFunc(sizes, wrong) {
		return api.ErrArg
	}
	return api.OK
}

// tableError returns the first error of a table that is to have the shape h.
func tableError(table []int, h shape) api.Errno {
	wrong := func(n int) bool { return n < 0 || n >= h.values }
	switch {
	case h.entries > mostEntries:
		return api.ErrLong
	case len(table) != h.entries, slices.ContainsFunc(table, wrong):
		return api.ErrArg
	}
	return api.OK
}

// shapeOf returns the shape of the table of f, without entries if Int occurs in f.
func shapeOf(s api.Sign, sizes []int, f api.Fun) shape {
	if f.Res == api.Int || slices.Contains(f.Args, api.Int) {
		return shape{}
	}
	h := shape{entries: 1, values: count(s, sizes, f.Res)}
	for _, a := range f.Args {
		h.entries *= count(s, sizes, a)
	}
	return h
}

// count returns how many values the sort has; 0 if it is not known, or Int.
func count(s api.Sign, sizes []int, of api.Sort) int {
	if of == api.Bool {
		return 2
	}
	if i := slices.Index(s.Sorts, of); i >= 0 {
		return sizes[i]
	}
	return 0
}

// ends returns the bindings of the variables to their first values and those to their last ones; ErrArg or ErrLong, if not all combinations can be gone through.
func ends(s api.Sign, sizes []int, vars []api.Var) (first, last []Bind, e api.Errno) {
	for _, v := range vars {
		n := count(s, sizes, v.Sort)
		if n == 0 || v.Sort == api.Bool {
			return nil, nil, api.ErrArg
		}
		first, last = append(first, Bind{Name: v.Name}), append(last, Bind{Name: v.Name, Val: int64(n - 1)})
	}
	all := int64(1)
	for _, x := range last {
		all *= x.Val + 1
		if all > mostEntries {
			return nil, nil, api.ErrLong
		}
	}
	return first, last, api.OK
}

// combinations are all combinations of bindings from the first ones to the last ones, the last variable varying fastest, each one in the memory of the one before.
func combinations(first, last []Bind) iter.Seq[[]Bind] {
	return func(yield func([]Bind) bool) {
		env := slices.Clone(first)
		for yield(env) {
			i := len(env) - 1
			for ; i >= 0 && env[i] == last[i]; i-- {
				env[i] = first[i]
			}
			if i < 0 {
				return
			}
			env[i].Val++
		}
	}
}
