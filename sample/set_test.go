package sample

import (
	"slices"
	"testing"

	"sequitur/api"
)

func TestSets(t *testing.T) {
	want := api.Cnf{N: 3, L: [][]int{{1, -2}, {}, {-3}, {0, 7, -1 << 63}}}
	for i, c := range []api.Cnf{SetOf(3, "1 -2;; -3 ;0 7 -9223372036854775808;"), Set(3, []int{1, -2}, nil, []int{-3}, []int{0, 7, -1 << 63}), TwinSet(want), RoomySet(want)} {
		if !EqualSets(c, want) || !EqualSets(want, c) || Sets(c).Shares(Sets(want)) {
			t.Error(i, SetText(c))
		}
	}
	for i, c := range []api.Cnf{{}, Set(0), SetOf(0, ""), TwinSet(api.Cnf{}), RoomySet(api.Cnf{}), {L: [][]int{}}} {
		if !EqualSets(c, Set(0)) {
			t.Error(i, SetText(c))
		}
	}
	if c := SetOf(1, ";"); len(c.L) != 1 || len(c.L[0]) != 0 {
		t.Error(SetText(c))
	}
	if s := Sets(want, Set(0)).Text(); s != "[of 3 4 clauses: {2 numbers: 1, -2}, {0 numbers: }, {1 numbers: -3}, {3 numbers: 0, 7, -9223372036854775808}] [of 0 0 clauses: ] 0 claims: " {
		t.Error(s)
	}
	if s := SetText(Set(1, slices.Repeat([][]int{slices.Repeat([]int{1 << 62}, 1000)}, 1000)...)); len(s) > 1200 {
		t.Error(s)
	}
}

// What is behind the ends of a set belongs to the whole of it.
func TestWholeSet(t *testing.T) {
	for i, change := range []func(c api.Cnf){
		func(c api.Cnf) { c.L[0][1] = 5 },
		func(c api.Cnf) { c.L[1] = []int{5} },
		func(c api.Cnf) { c.L[0], c.L[1] = c.L[1], c.L[0] },
		func(c api.Cnf) { _ = append(c.L[0], 5) },
		func(c api.Cnf) { _ = append(c.L, nil) },
		func(c api.Cnf) { _ = append(c.L, []int{5}) },
		SpoilSet,
	} {
		c := RoomySet(SetOf(2, "1 2;-1;"))
		if said := WholeSet(c).Changed(func() { change(c) }); said == "" {
			t.Error(i)
		}
		if said := WholeSet(c).Changed(func() {}); said != "" {
			t.Error(i, said)
		}
	}
}

func TestSpoiltSets(t *testing.T) {
	c := RoomySet(SetOf(2, "1 2;-1;;"))
	inner := slices.Clone(c.L)
	SpoilSet(c)
	for _, l := range append(inner, c.L[:cap(c.L)]...) {
		if l = l[:cap(l)]; len(l) == 0 || slices.ContainsFunc(l, func(n int) bool { return n != 99 }) {
			t.Error(l)
		}
	}
}

// What is made has every number of clauses and of numbers that it may have, and every number that it may be made of.
func TestWildSet(t *testing.T) {
	pick := Scattered(521288629546311)
	seen, sizes, counts := map[int]bool{}, map[int]bool{}, map[int]bool{}
	for range 1000 {
		c := WildSet(pick, 3, 5, 4, 0, 77)
		counts[len(c.L)] = true
		for _, l := range c.L {
			sizes[len(l)] = true
			for _, n := range l {
				seen[n] = true
			}
		}
		if c.N != 3 || Sets(c).Shares(Data{}) {
			t.Fatal(c)
		}
	}
	for _, n := range []int{1, -1, 2, -2, 3, -3, 0, 77} {
		if !seen[n] {
			t.Error(n)
		}
	}
	if len(seen) != 8 || len(sizes) != 5 || len(counts) != 6 || !sizes[4] || !counts[5] {
		t.Error(seen, sizes, counts)
	}
}
