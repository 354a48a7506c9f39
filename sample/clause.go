package sample

import (
	"slices"
	"strconv"
)

// Clauses are lists of numbers as data.
func Clauses(l ...[]int) Data { return Data{Clauses: l} }

// Values are lists of values as data.
func Values(l ...[]bool) Data { return Data{Values: l} }

// Literals are those of the variables 1 to n, each variable ahead of its opposite.
func Literals(n int) []int {
	var l []int
	for v := 1; v <= n; v++ {
		l = append(l, v, -v)
	}
	return l
}

// Rising are the n literals from 1 on.
func Rising(n int) []int {
	l := make([]int, n)
	for i := range l {
		l[i] = i + 1
	}
	return l
}

// Put is l with x in place of its element i, in new memory.
func Put[T any](l []T, i int, x T) []T {
	l = slices.Clone(l)
	l[i] = x
	return l
}

// Choices are all lists of at most n of the elements, each as often as there is room for it, shorter lists ahead of longer ones.
func Choices[T any](n int, elements ...T) [][]T {
	all := [][]T{nil}
	last := all
	for range n {
		var longer [][]T
		for _, l := range last {
			for _, x := range elements {
				longer = append(longer, append(slices.Clip(l), x))
			}
		}
		all, last = append(all, longer...), longer
	}
	return all
}

// ClauseText are the first numbers of l, and how many there are.
func ClauseText(l []int) string { return texts("numbers", l, strconv.Itoa) }

// ValuesText are the first values of l, and how many there are.
func ValuesText(l []bool) string { return texts("values", l, strconv.FormatBool) }

// SpoilClause changes all numbers of l, and what is free behind it.
func SpoilClause(l []int) { fill(l, 99) }

// SpoilValues changes all values of l, and what is free behind it.
func SpoilValues(l []bool) {
	whole := l[:cap(l)]
	for i := range whole {
		whole[i] = !whole[i]
	}
}
