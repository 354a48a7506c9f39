package sample

import (
	"slices"
	"strings"

	"sequitur/api"
)

// Fun is a function; between the sorts of its Args are blanks.
func Fun(name, args string, res api.Sort) api.Fun {
	return api.Fun{Name: name, Args: strings.Fields(args), Res: res}
}

// Sign is a signature; between its sorts are blanks.
func Sign(l string, funs ...api.Fun) api.Sign {
	return api.Sign{Sorts: strings.Fields(l), Funs: funs}
}

// Free are variables, each a name and its sort; between two of them are commas.
func Free(l string) []api.Var {
	var vars []api.Var
	for v := range strings.SplitSeq(l, ",") {
		name, sort, _ := strings.Cut(strings.TrimSpace(v), " ")
		vars = append(vars, api.Var{Name: name, Sort: sort})
	}
	return vars
}

// EqualFuns tells whether f and g are the same in everything; an empty list may be nil.
func EqualFuns(f, g api.Fun) bool {
	return f.Name == g.Name && slices.Equal(f.Args, g.Args) && f.Res == g.Res
}

// EqualSigns tells whether a and b are the same in everything; an empty list may be nil.
func EqualSigns(a, b api.Sign) bool {
	return slices.Equal(a.Sorts, b.Sorts) && slices.EqualFunc(a.Funs, b.Funs, EqualFuns)
}

// TwinFun is f in new memory, nil where f is nil.
func TwinFun(f api.Fun) api.Fun {
	f.Args = twinElements(f.Args)
	return f
}

// TwinSign is s in new memory, nil where s is nil.
func TwinSign(s api.Sign) api.Sign {
	return api.Sign{Sorts: twinElements(s.Sorts), Funs: twins(s.Funs, TwinFun)}
}

// SpoilFun changes all of f, and what is free behind its Args.
func SpoilFun(f *api.Fun) {
	SpoilNames(f.Args)
	f.Name, f.Res = "spoilt", "spoilt"
}

// SpoilSign changes all sorts and functions of s, and what is free behind its lists.
func SpoilSign(s api.Sign) {
	SpoilNames(s.Sorts)
	for _, f := range s.Funs {
		SpoilNames(f.Args)
	}
	fill(s.Funs, api.Fun{Name: "spoilt", Args: []api.Sort{"spoilt"}, Res: "spoilt"})
}

// SpoilNames changes all texts of l, and what is free behind it.
func SpoilNames(l []string) { fill(l, "spoilt") }

// SpoilVars changes all variables of l, and what is free behind it.
func SpoilVars(l []api.Var) { fill(l, api.Var{Name: "spoilt", Sort: "spoilt"}) }

// NamesText are the first texts of l, and how many there are.
func NamesText(l []string) string { return texts("names", l, quoted) }

// VarsText are the first variables of l, and how many there are.
func VarsText(l []api.Var) string {
	return texts("variables", l, func(v api.Var) string { return quoted(v.Name) + ": " + quoted(v.Sort) })
}

// FunText is f without most of its Args.
func FunText(f api.Fun) string {
	return quoted(f.Name) + " of " + NamesText(f.Args) + " -> " + quoted(f.Res)
}

// SignText are the first sorts and functions of s, and how many there are.
func SignText(s api.Sign) string {
	return "{" + NamesText(s.Sorts) + "; " + texts("functions", s.Funs, FunText) + "}"
}

func identicalFuns(f, g api.Fun) bool {
	return EqualFuns(f, g) && identicalElements(f.Args, g.Args)
}

func identicalSigns(a, b api.Sign) bool {
	return identicalElements(a.Sorts, b.Sorts) && identical(a.Funs, b.Funs, identicalFuns)
}
