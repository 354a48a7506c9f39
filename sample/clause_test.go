package sample

import (
	"slices"
	"strings"
	"testing"
)

func TestClauses(t *testing.T) {
	d := Clauses([]int{1, -2}, nil).With(Values([]bool{true}))
	if s := d.Text(); s != "[2 numbers: 1, -2] [0 numbers: ] [1 values: true] 0 claims: " {
		t.Error(s)
	}
	if !d.Equal(Data{Clauses: [][]int{{1, -2}, {}}, Values: [][]bool{{true}}}) || d.Equal(Clauses([]int{1, -2}, nil)) || d.Equal(Values([]bool{true})) {
		t.Error(d.Text())
	}
	if s := ClauseText(slices.Repeat([]int{1 << 62}, 1000)); len(s) > 200 {
		t.Error(s)
	}
	if s := ValuesText(make([]bool, 1000)); len(s) > 200 {
		t.Error(s)
	}
}

func TestTextOfManyLists(t *testing.T) {
	for n, want := range map[int]string{20: "] 0 claims: ", 21: "] and 1 more 0 claims: ", 65536: "] and 65516 more 0 claims: "} {
		if s := Values(make([][]bool, n)...).Text(); strings.Count(s, "[") != 20 || !strings.HasSuffix(s, want) {
			t.Error(n, s)
		}
	}
}

func TestSpoiltClauses(t *testing.T) {
	c, values := []int{1, 2, 3}, []bool{true, false, true}
	SpoilClause(c[:1])
	SpoilValues(values[:1])
	if !slices.Equal(c, []int{99, 99, 99}) || !slices.Equal(values, []bool{false, true, false}) {
		t.Error(c, values)
	}
}

func TestLists(t *testing.T) {
	up := Rising(4)
	if l := Put(up, 2, -9); !slices.Equal(l, []int{1, 2, -9, 4}) || !slices.Equal(up, []int{1, 2, 3, 4}) || Clauses(l).Shares(Clauses(up)) {
		t.Error(l, up)
	}
	if l := Literals(2); !slices.Equal(l, []int{1, -1, 2, -2}) {
		t.Error(l)
	}
	if len(Rising(0)) != 0 || len(Literals(0)) != 0 {
		t.Error(Rising(0), Literals(0))
	}
}

func TestChoices(t *testing.T) {
	all := Choices(3, 7, 8)
	seen := map[string]bool{}
	for i, l := range all {
		seen[ClauseText(l)] = true
		if i > 0 && len(l) < len(all[i-1]) {
			t.Error(all[i-1], l)
		}
	}
	if len(all) != 1+2+4+8 || len(seen) != len(all) {
		t.Error(all)
	}
	for _, l := range [][]int{nil, {8}, {7, 7}, {8, 7, 8}} {
		if !seen[ClauseText(l)] {
			t.Error(l)
		}
	}
	if l := Choices[int](3); len(l) != 1 || len(l[0]) != 0 {
		t.Error(l)
	}
	if l := Choices(0, 1); len(l) != 1 || len(l[0]) != 0 {
		t.Error(l)
	}
	if Clauses(all...).Shares(Data{}) {
		t.Error("two choices share memory")
	}
}
