package sample

import (
	"slices"
	"strconv"
	"strings"

	"sequitur/api"
)

// Set is a set of clauses.
func Set(n int, l ...[]int) api.Cnf { return api.Cnf{N: n, L: l} }

// SetOf is a set of clauses, each of which ends with a semicolon; between its numbers are blanks.
func SetOf(n int, l string) api.Cnf {
	c := Set(n)
	for clause := range strings.SplitAfterSeq(l, ";") {
		if inner, ok := strings.CutSuffix(clause, ";"); ok {
			c.L = append(c.L, twins(strings.Fields(inner), number))
		}
	}
	return c
}

// number is the number of which s is the text, 0 if there is none.
func number(s string) int {
	n, _ := strconv.Atoi(s)
	return n
}

// WildSet is a set of at most most clauses with at most size of the literals of the variables 1 to n, and of the odd numbers if there are any, that pick picks.
func WildSet(pick func(n int) int, n, most, size int, odd ...int) api.Cnf {
	numbers := append(Literals(n), odd...)
	c := Set(n)
	for range pick(most + 1) {
		var l []int
		for range pick(size + 1) {
			l = append(l, one(pick, numbers))
		}
		c.L = append(c.L, l)
	}
	return c
}

// Sets are sets of clauses as data.
func Sets(l ...api.Cnf) Data { return Data{Sets: l} }

// EqualSets tells whether a and b are the same in everything; an empty list may be nil.
func EqualSets(a, b api.Cnf) bool { return a.N == b.N && slices.EqualFunc(a.L, b.L, slices.Equal) }

// TwinSet is c in new memory, nil where c is nil.
func TwinSet(c api.Cnf) api.Cnf { return Set(c.N, twins(c.L, twinElements)...) }

// RoomySet is c in memory of its own with room behind its lists, in which numbers and clauses stand.
func RoomySet(c api.Cnf) api.Cnf {
	roomy := func(l []int) []int { return Roomy(l, -77) }
	return Set(c.N, Roomy(twins(c.L, roomy), []int{-77})...)
}

// WholeSet is c as data, with what is behind the ends of its lists.
func WholeSet(c api.Cnf) Data {
	l := c.L[:cap(c.L)]
	return Sets(Set(c.N, l...)).With(Clauses(twins(l, func(l []int) []int { return l[:cap(l)] })...))
}

// SpoilSet changes all clauses of c, and what is free behind its lists.
func SpoilSet(c api.Cnf) {
	for _, l := range c.L {
		SpoilClause(l)
	}
	fill(c.L, []int{99})
}

// SetText are the first clauses of c, and how many there are.
func SetText(c api.Cnf) string {
	return "of " + strconv.Itoa(c.N) + " " + texts("clauses", c.L, func(l []int) string { return "{" + ClauseText(l) + "}" })
}

func identicalSets(a, b api.Cnf) bool { return a.N == b.N && identical(a.L, b.L, identicalElements) }
