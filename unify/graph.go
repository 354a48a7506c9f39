package unify

import (
	"cmp"
	"slices"

	"sequitur/api"
	"sequitur/tree"
)

// place is where a part stands in a graph.
type place int32

// part is a part of a right term, with the places of its Args.
type part struct {
	op    int
	name  string
	num   int64
	count int // of its Args
	args  [api.MaxArgs]place
	loose bool // whether a loose number is in it
}

// measure is the size of a part with all bindings applied, at most MaxSize + 1, and its depth.
type measure struct {
	size, depth int
}

// What stands for the size of a part that is not measured.
const (
	unseen = 0
	begun  = -1 // what is below it is measured first
)

// graph are the parts of terms, the variables ahead of all others and by increasing names.
// Parts that are the same have one place: terms that share memory may have far more parts than there would be room for.
type graph struct {
	parts     []part
	of        map[part]place
	variables place   // how many there are
	bound     []place // what a variable is bound to; any other part to itself
	same      []place // another part that was made the same; the part itself if there is none
	measures  []measure
}

// unified returns the substitution of vars that makes the right terms of a and b the same, or the first failure.
func unified(a, b []api.Term, vars []string) ([]api.Pair, api.Errno) {
	g := &graph{of: map[part]place{}}
	for _, name := range slices.Sorted(slices.Values(vars)) {
		g.put(api.Term{Op: api.TVar, Name: name})
	}
	g.variables = place(len(g.parts))
	e := g.unify(tree.Mapped(a, g.put), tree.Mapped(b, g.put))
	// A variable in what it is bound to is looked for here: at each binding it would take far more steps.
	// If there is one, the binding by which it came is ahead of the failure e, or is itself the one that failed with ErrBound.
	if !g.measured() {
		return nil, api.ErrOccur
	}
	if e = cmp.Or(e, g.limit()); e != api.OK {
		return nil, e
	}
	return g.pairs(), api.OK
}

// put returns the place of t.
func (g *graph) put(t api.Term) place {
	p := part{op: t.Op, name: t.Name, num: t.Num, count: len(t.Args), loose: t.Op == api.TBound}
	for i, a := range t.Args {
		p.args[i] = g.put(a)
		p.loose = p.loose || g.parts[p.args[i]].loose
	}
	i, ok := g.of[p]
	if !ok {
		i = place(len(g.parts))
		g.of[p] = i
		g.parts, g.bound, g.same = append(g.parts, p), append(g.bound, i), append(g.same, i)
	}
	return i
}

// args are the places of the Args of the part at i.
func (g *graph) args(i place) []place { return g.parts[i].args[:g.parts[i].count] }

// unify makes the parts at the places of a and b the same, pair by pair. It returns the first failure but ErrOccur.
func (g *graph) unify(a, b []place) api.Errno {
	// What is still to be done stands in a list, the next pair last: with bindings, parts nest deeper than calls can.
	todo := pushed(nil, a, b)
	for len(todo) > 0 {
		next := todo[len(todo)-1]
		todo = todo[:len(todo)-1]
		i, j := end(g.bound, next[0]), end(g.bound, next[1])
		if i >= g.variables && j < g.variables {
			i, j = j, i
		}
		switch {
		case end(g.same, i) == end(g.same, j):
		case i < g.variables:
			g.bound[i] = j
			if g.parts[j].loose {
				return api.ErrBound
			}
		case !alike(g.parts[i], g.parts[j]):
			return api.ErrUnify
		default:
			// Ahead of their Args: if a variable is in what it is bound to, the two may come again there, and this has to end.
			g.same[end(g.same, i)] = end(g.same, j)
			todo = pushed(todo, g.args(i), g.args(j))
		}
	}
	return api.OK
}

// pushed returns todo with the pairs of a and b behind it, the first one last.
func pushed(todo [][2]place, a, b []place) [][2]place {
	for k := range slices.Backward(a) {
		todo = append(todo, [2]place{a[k], b[k]})
	}
	return todo
}

// end follows the links from i to the last place, and makes the way there shorter.
func end(links []place, i place) place {
	for links[i] != i {
		links[i] = links[links[i]]
		i = links[i]
	}
	return i
}

// alike tells whether p and q differ in their Args at most, and not in how many these are.
func alike(p, q part) bool {
	return p.op == q.op && p.name == q.name && p.num == q.num && p.count == q.count
}

// measured measures all that is within the variables, and tells whether none of them is in what it is bound to.
func (g *graph) measured() bool {
	g.measures = make([]measure, len(g.parts))
	todo := make([]place, g.variables)
	for i := range todo {
		todo[i] = place(i)
	}
	for len(todo) > 0 {
		i := todo[len(todo)-1]
		switch g.measures[i].size {
		case unseen:
			g.measures[i].size = begun
			for _, j := range g.below(i) {
				if g.measures[j].size == begun {
					return false
				}
				todo = append(todo, j)
			}
		case begun:
			g.measures[i] = g.measure(i)
		default:
			todo = todo[:len(todo)-1]
		}
	}
	return true
}

// below are the places of what the part at i is bound to, or else of its Args.
func (g *graph) below(i place) []place {
	if g.bound[i] != i {
		return g.bound[i : i+1]
	}
	return g.args(i)
}

// measure is that of the part at i if all below it is measured.
func (g *graph) measure(i place) measure {
	if g.bound[i] != i {
		return g.measures[g.bound[i]]
	}
	m := measure{size: 1, depth: 1}
	for _, j := range g.args(i) {
		m.size = min(m.size+g.measures[j].size, api.MaxSize+1)
		m.depth = max(m.depth, g.measures[j].depth+1)
	}
	return m
}

// limit returns the error of the first variable whose term is too deep or too long.
func (g *graph) limit() api.Errno {
	for _, m := range g.measures[:g.variables] {
		switch {
		case m.depth > api.MaxDepth:
			return api.ErrDeep
		case m.size > api.MaxSize:
			return api.ErrLong
		}
	}
	return api.OK
}

// pairs are the bound variables and their terms, in new memory.
func (g *graph) pairs() []api.Pair {
	var l []api.Pair
	for i, p := range g.parts[:g.variables] {
		if g.bound[i] != place(i) {
			l = append(l, api.Pair{Name: p.name, Term: g.term(place(i))})
		}
	}
	return l
}

// term is the part at i with all bindings applied, in new memory.
func (g *graph) term(i place) api.Term {
	i = end(g.bound, i)
	p := g.parts[i]
	return api.Term{Op: p.op, Name: p.name, Num: p.num, Args: tree.Mapped(g.args(i), g.term)}
}
