// Package tree handles whatever consists of parts of its own type, as terms and claims do. It is no layer: the layers share it.
//
// Its functions are passed a function below, which returns the parts right below one.
package tree

import (
	"iter"
	"slices"

	"sequitur/api"
)

// All are the parts of t in preorder, t among them.
func All[T any](t T, below func(T) []T) iter.Seq[T] {
	return func(yield func(T) bool) { visit(t, below, yield) }
}

// Depth returns the number of levels of t, at most MaxDepth + 1.
func Depth[T any](t T, below func(T) []T) int {
	if few(t, below) {
		return min(height(t, below), api.MaxDepth+1)
	}
	// Too many parts to visit one by one: whole levels are counted.
	d := 1
	for l := next([][]T{{t}}, below); len(l) > 0 && d <= api.MaxDepth; l = next(l, below) {
		d++
	}
	return d
}

// Firsts returns the elements of l, each where it first stands; compare tells 0 of those that are the same.
func Firsts[T any](l []T, compare func(a, b T) int) []T {
	places := make([]int, len(l))
	for i := range places {
		places[i] = i
	}
	slices.SortStableFunc(places, func(i, j int) int { return compare(l[i], l[j]) })
	places = slices.CompactFunc(places, func(i, j int) bool { return compare(l[i], l[j]) == 0 })
	slices.Sort(places)
	return Mapped(places, func(i int) T { return l[i] })
}

// Mapped returns what f makes of each element of l, in new memory.
func Mapped[S, T any](l []S, f func(S) T) []T {
	if len(l) == 0 {
		return nil
	}
	r := make([]T, len(l))
	for i, x := range l {
		r[i] = f(x)
	}
	return r
}

// visit calls f with the parts of t in preorder, until f returns false; it tells whether f never did.
func visit[T any](t T, below func(T) []T, f func(T) bool) bool {
	if !f(t) {
		return false
	}
	for _, p := range below(t) {
		if !visit(p, below, f) {
			return false
		}
	}
	return true
}

// few tells whether t has at most MaxSize parts; it visits no more than one beyond them.
func few[T any](t T, below func(T) []T) bool {
	n := 0
	return visit(t, below, func(T) bool {
		n++
		return n <= api.MaxSize
	})
}

// height returns the number of levels of t, however great; it takes as many steps as t has parts.
func height[T any](t T, below func(T) []T) int {
	h := 0
	for _, p := range below(t) {
		h = max(h, height(p, below))
	}
	return h + 1
}

// next returns the lists of parts right below those of the lists, without the empty ones.
// Parts in the same memory are taken once: several parts may share theirs, and a tree then has more parts than could ever be visited.
func next[T any](lists [][]T, below func(T) []T) [][]T {
	longest := map[*T]int{}
	var found [][]T
	for _, l := range lists {
		for _, t := range l {
			if parts := below(t); len(parts) > 0 && len(parts) > longest[&parts[0]] {
				longest[&parts[0]] = len(parts)
				found = append(found, parts)
			}
		}
	}
	return found
}
