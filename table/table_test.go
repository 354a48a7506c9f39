package table

import (
	"math"
	"slices"
	"testing"

	"sequitur/api"
	"sequitur/cnf"
	"sequitur/lit"
	"sequitur/sample"
)

const (
	lowest   = math.MinInt
	greatest = math.MaxInt
)

var of, set, rising = sample.SetOf, sample.Set, sample.Rising

// failing is the clause of n variables that fails under the assignment at alone.
func failing(n, at int) []int {
	var l []int
	for v := 1; v <= n; v++ {
		if wantLiteral(v, at) {
			l = append(l, -v)
		} else {
			l = append(l, v)
		}
	}
	return l
}

// only is the set of n variables that holds under the assignment at alone.
func only(n, at int) api.Cnf {
	c := set(n)
	for _, l := range failing(n, at) {
		c.L = append(c.L, []int{-l})
	}
	return c
}

// numbers are those of all assignments to n variables but without.
func numbers(n int, without ...int) []int {
	var l []int
	for at := range power(n) {
		if !slices.Contains(without, at) {
			l = append(l, at)
		}
	}
	return l
}

// places are the numbers of the first assignments to n variables, of some in the middle, and of the last ones.
func places(n int) []int {
	p := power(n)
	if n < 4 {
		return numbers(n)
	}
	return []int{0, 1, p/2 - 1, p / 2, p/3 + 1, p - 2, p - 1}
}

// critical are clauses of three variables at which something changes.
func critical() [][]int {
	return [][]int{nil, {1}, {-1}, {2}, {-2, 1}, {1, 2}, {-1, -2, -1}, {2, -2}, {-3, 2, 1, 1}, {3, -1}}
}

// wrongClauses are clauses that are not right beside 16 variables, nor beside 17.
func wrongClauses() [][]int {
	return [][]int{{0}, {lowest}, {greatest}, {1, -greatest}, {18}, {2, -18, 1}, rising(65), slices.Repeat([]int{1}, 65)}
}

// rightSets are all sets of at most most of the critical clauses, of three and four variables.
func rightSets(most int) []api.Cnf {
	var l []api.Cnf
	for _, clauses := range sample.Choices(most, critical()...) {
		l = append(l, set(3, clauses...), set(4, clauses...))
	}
	return l
}

// anySets are sets that are right, too great or not right, with every N at which something changes.
func anySets() []api.Cnf {
	var l []api.Cnf
	for _, clauses := range sample.Choices(2, append(wrongClauses(), nil, []int{-1}, []int{17, 1})...) {
		for _, n := range []int{lowest, -1, 0, 1, 15, 16, 17, 18, 1023, 1024, 1025, greatest} {
			if n < 15 || n > 16 || len(clauses) == 2 {
				l = append(l, set(n, clauses...))
			}
		}
	}
	for _, n := range []int{-1, 0, 1, 16, 17, 1024, 1025} {
		for _, clause := range [][]int{nil, {1}, {0}, rising(65)} {
			l = append(l, set(n, slices.Repeat([][]int{clause}, 4097)...))
		}
		l = append(l, set(n, slices.Repeat([][]int{nil}, 4096)...))
	}
	return l
}

// Promise 19.1: Values.

func TestValues(t *testing.T) {
	checkValues(t, 0, 0)
	checkValues(t, 1, 0, false)
	checkValues(t, 1, 1, true)
	checkValues(t, 2, 1, true, false)
	checkValues(t, 2, 2, false, true)
	checkValues(t, 3, 6, false, true, true)
	checkValues(t, 4, 13, true, false, true, true)
	checkValues(t, 16, 1, append([]bool{true}, make([]bool, 15)...)...)
	checkValues(t, 16, 32768, append(make([]bool, 15), true)...)
	checkValues(t, 16, 65534, append([]bool{false}, slices.Repeat([]bool{true}, 15)...)...)
	checkValues(t, 16, 65535, slices.Repeat([]bool{true}, 16)...)
}

// There are no assignments to fewer than no variables or more than MaxTable, and none below 0 or from 2^n on.
func TestValuesAtTheEnds(t *testing.T) {
	if api.MaxTable != 16 {
		t.Error(api.MaxTable)
	}
	for _, n := range []int{lowest, lowest + 1, -64, -2, -1, 17, 18, 31, 32, 62, 63, 64, 65, 1024, greatest} {
		for _, at := range []int{lowest, -2, -1, 0, 1, 2, 65535, 65536, 131071, 1 << 32, 1 << 62, greatest} {
			if l := Values(n, at); l != nil {
				t.Error(n, at, l)
			}
		}
	}
	for n := range 17 {
		p := 1 << n
		for _, at := range []int{lowest, lowest + 1, -p - 1, -p, -2, -1, p, p + 1, 2*p - 1, 2 * p, 1 << 16, 1 << 32, 1 << 62, greatest - 1, greatest} {
			if l := Values(n, at); l != nil {
				t.Error(n, at, l)
			}
		}
		checkValues(t, n, 0, make([]bool, n)...)
		checkValues(t, n, p-1, slices.Repeat([]bool{true}, n)...)
	}
}

func TestValuesOfEachNumber(t *testing.T) {
	for n := range 17 {
		for at := range 1 << n {
			l := Values(n, at)
			if len(l) != n || !slices.Equal(l, wantValues(n, at)) {
				t.Error(n, at, l)
			}
			sum := 0
			for i, value := range l {
				if value {
					sum += 1 << i
				}
			}
			if sum != at {
				t.Error(n, at, l)
			}
		}
	}
}

// Promise 19.1: First, Count and All.

func TestSets(t *testing.T) {
	checkSet(t, of(2, "1 2;"), api.OK, 1, 2, 3)
	checkSet(t, of(3, "1 -2; 2 3; -1 -3;"), api.OK, 3, 4)
	checkSet(t, of(2, "-1;"), api.OK, 0, 2)
	checkSet(t, of(2, "2;"), api.OK, 2, 3)
	checkSet(t, of(2, "1; -2;"), api.OK, 1)
	checkSet(t, of(3, "-3 -1; 2;"), api.OK, 2, 3, 6)
	checkSet(t, of(4, "4; 3; 2 -1;"), api.OK, 12, 14, 15)
	checkSet(t, of(2, "1 2; -1 2; 1 -2; -1 -2;"), api.OK)
	// Each variable from 1 to N has a value, whether a clause has it or not.
	checkSet(t, of(1, "1;"), api.OK, 1)
	checkSet(t, of(3, "1;"), api.OK, 1, 3, 5, 7)
	checkSet(t, of(3, "-3;"), api.OK, 0, 1, 2, 3)
}

func TestSetsWithoutVariables(t *testing.T) {
	checkSet(t, api.Cnf{}, api.OK, 0)
	checkSet(t, set(0, [][]int{}...), api.OK, 0)
	checkSet(t, of(0, ";"), api.OK)
	checkSet(t, of(0, ";;"), api.OK)
	if l, is, e := First(api.Cnf{}); len(l) != 0 || !is || e != api.OK {
		t.Error(l, is, e)
	}
	checkSet(t, of(0, "1;"), api.ErrArg)
	checkSet(t, of(0, "0;"), api.ErrArg)
}

// Without clauses, and with clauses of which each has a literal and its opposite, a set holds under all assignments.
func TestSetsThatAlwaysHold(t *testing.T) {
	for n := range 13 {
		all := numbers(n)
		checkSet(t, set(n), api.OK, all...)
		if n > 0 {
			checkSet(t, set(n, []int{-n, n}), api.OK, all...)
			checkSet(t, set(n, []int{1, n, -1}, []int{n, -n}, []int{1, -1, 1, -1}), api.OK, all...)
		}
	}
	for n := 13; n <= 16; n++ {
		checkCount(t, set(n), api.OK, power(n))
		checkCount(t, set(n, []int{n, -n}), api.OK, power(n))
	}
	checkSet(t, set(16, []int{7, -16, -7}), api.OK, numbers(16)...)
}

func TestSetsThatNeverHold(t *testing.T) {
	for n := 1; n <= 16; n++ {
		checkSet(t, of(n, ";"), api.OK)
		checkSet(t, of(n, "1;;"), api.OK)
		checkSet(t, set(n, []int{n, -n}, nil, []int{1}), api.OK)
		checkSet(t, set(n, []int{n}, []int{-n}), api.OK)
		checkSet(t, set(n, []int{-n, -n}, []int{1}, []int{n, n, n}), api.OK)
	}
	for n := range 13 {
		c := set(n)
		for at := range power(n) {
			c.L = append(c.L, failing(n, at))
		}
		checkSet(t, c, api.OK)
		// Without one of them, the set holds under the assignment that it alone excludes.
		for _, at := range places(n) {
			checkSet(t, set(n, slices.Delete(slices.Clone(c.L), at, at+1)...), api.OK, at)
		}
	}
}

func TestSetsThatHoldOnce(t *testing.T) {
	for n := range 17 {
		for _, at := range places(n) {
			checkSet(t, only(n, at), api.OK, at)
			doubled := only(n, at)
			slices.Reverse(doubled.L)
			for i, l := range doubled.L {
				doubled.L[i] = slices.Concat(l, l, l)
			}
			checkSet(t, doubled, api.OK, at)
			checkSet(t, set(n, append(doubled.L, failing(n, at))...), api.OK)
		}
	}
}

func TestSetsThatFailOnce(t *testing.T) {
	for n := range 13 {
		for _, at := range places(n) {
			checkSet(t, set(n, failing(n, at)), api.OK, numbers(n, at)...)
			checkSet(t, set(n, failing(n, at), slices.Repeat(failing(n, at), 4)), api.OK, numbers(n, at)...)
		}
	}
	for _, at := range places(16) {
		c := set(16, failing(16, at))
		checkCount(t, c, api.OK, 65535)
		want := 0
		if at == 0 {
			want = 1
		}
		if l, is, e := First(c); !slices.Equal(l, wantValues(16, want)) || !is || e != api.OK {
			t.Error(at, l, is, e)
		}
	}
}

// The errors of a set as a set come first, then that of too many variables.
func TestErrors(t *testing.T) {
	for _, n := range []int{lowest, -2, -1, 1025, 1026, greatest} {
		for _, l := range []string{"", ";", "1;", "0;", "1; 2000;"} {
			checkSet(t, of(n, l), api.ErrArg)
		}
		checkSet(t, set(n, rising(65)), api.ErrArg)
		checkSet(t, set(n, slices.Repeat([][]int{nil}, 4097)...), api.ErrArg)
	}
	for _, n := range []int{17, 18, 100, 1023, 1024} {
		for _, l := range []string{"", ";", "1;", "1 -17; 16;"} {
			checkSet(t, of(n, l), api.ErrLong)
		}
		checkSet(t, of(n, "0;"), api.ErrArg)
		checkSet(t, of(n, "1; 2; 1025;"), api.ErrArg)
		checkSet(t, set(n, []int{n + 1}), api.ErrArg)
		checkSet(t, set(n, []int{-n}), api.ErrLong)
	}
	for n := range 17 {
		checkSet(t, set(n, []int{n + 1}), api.ErrArg)
		checkSet(t, set(n, nil, []int{-n - 1}), api.ErrArg)
		checkSet(t, set(n, nil, []int{0}, rising(65)), api.ErrArg)
		checkSet(t, set(n, nil, rising(65), []int{0}), api.ErrLong)
		checkSet(t, set(n, slices.Repeat([][]int{{0}}, 4097)...), api.ErrLong)
		checkSet(t, set(n, slices.Repeat([][]int{nil}, 4097)...), api.ErrLong)
		checkSet(t, set(n, slices.Repeat([][]int{nil}, 4096)...), api.OK)
	}
	for _, clause := range wrongClauses() {
		e := lit.Right(clause, 17)
		for _, n := range []int{16, 17} {
			checkSet(t, set(n, clause), e)
			checkSet(t, set(n, nil, []int{1, -1}, clause, nil), e)
		}
	}
}

func TestSetsFollowTheChapter(t *testing.T) {
	for _, c := range rightSets(3) {
		followSet(t, c)
	}
	found := map[api.Errno]int{}
	for _, c := range anySets() {
		found[followSet(t, c)]++
	}
	if l := sample.Rare(found, 20, api.OK, api.ErrArg, api.ErrLong); len(l) > 0 {
		t.Error(found)
	}
}

// Promise 19.1: how All is looped over.

// taken are the first most values that All yields of c, where the loop is left, and how often it was entered.
func taken(c api.Cnf, most int) (l [][]bool, entered int) {
	for values := range All(c) {
		entered++
		if len(l) < most {
			l = append(l, values)
		}
		if len(l) == most {
			break
		}
	}
	return l, entered
}

// loops are sets that hold under many, some, one and no assignments.
func loops() []api.Cnf {
	return []api.Cnf{of(2, "1 2;"), of(3, ""), of(4, "4 -1; 2;"), of(0, ""), only(5, 19), of(3, ";"), of(3, "1; -1;"), set(11, []int{-11, 3, 4})}
}

func TestAllIsLeft(t *testing.T) {
	for _, c := range loops() {
		want := wantNumbers(c)
		for most := range len(want) + 3 {
			l, entered := taken(c, most)
			if len(l) != min(most, len(want)) || entered != min(max(most, 1), len(want)) {
				t.Error(sample.SetText(c), most, len(l), entered)
			}
			for i, values := range l {
				if !slices.Equal(values, wantValues(c.N, want[i])) {
					t.Error(sample.SetText(c), most, i, values)
				}
			}
		}
	}
	// The last one of all, and the first one of many.
	if l, entered := taken(set(16), 65536); entered != 65536 || !slices.Equal(l[65535], wantValues(16, 65535)) {
		t.Error(entered, l[len(l)-1])
	}
	if l, entered := taken(only(16, 65535), 1); entered != 1 || !slices.Equal(l[0], wantValues(16, 65535)) {
		t.Error(entered, l)
	}
}

// Whoever calls the sequence without a loop is not called again once it returned false.
func TestAllEndsWithFalse(t *testing.T) {
	for _, c := range loops() {
		n, _ := Count(c)
		for most := 1; most <= n+2; most++ {
			called := 0
			All(c)(func([]bool) bool {
				called++
				return called < most
			})
			if called != min(most, n) {
				t.Error(sample.SetText(c), most, called)
			}
		}
	}
}

func TestAllTwice(t *testing.T) {
	for _, c := range loops() {
		all := All(c)
		var want [][]bool
		for _, at := range wantNumbers(c) {
			want = append(want, wantValues(c.N, at))
		}
		for range 3 {
			isData(t, func() [][]bool { return slices.Collect(all) }, want, sample.Sets(c))
			// A loop that is left early changes nothing of the next one.
			for range all {
				break
			}
		}
		// No two loops get the same memory.
		isData(t, func() [][]bool { return append(slices.Collect(all), slices.Collect(all)...) }, slices.Concat(want, want), sample.Sets(c))
	}
}

func TestAllWithinAll(t *testing.T) {
	c, d := of(3, "1 -2;"), of(2, "1 2;")
	all, other := All(c), All(d)
	var got, want [][]bool
	for x := range all {
		for y := range all {
			for z := range other {
				got = append(got, x, y, z)
			}
		}
	}
	for _, i := range wantNumbers(c) {
		for _, j := range wantNumbers(c) {
			for _, k := range wantNumbers(d) {
				want = append(want, wantValues(3, i), wantValues(3, j), wantValues(2, k))
			}
		}
	}
	if !slices.EqualFunc(got, want, slices.Equal) || len(got) != 6*6*3*3 {
		t.Error(len(got), got)
	}
}

// Loops within one another are left, and gone on with, from within.
func TestAllIsLeftFromWithin(t *testing.T) {
	all := All(of(3, ""))
	n := 0
outer:
	for x := range all {
		for y := range all {
			switch {
			case x[2]:
				break outer
			case y[1]:
				continue outer
			}
			n++
		}
	}
	if n != 4*2 {
		t.Error(n)
	}
	first := func() []bool {
		for x := range all {
			for y := range all {
				if y[0] && x[1] {
					return append(x, y...)
				}
			}
		}
		return nil
	}
	if l := first(); !slices.Equal(l, []bool{false, true, false, true, false, false}) {
		t.Error(l)
	}
}

// Values that are changed, or grow, while the loop goes on change no later ones and no other loop's.
func TestAllOfChangedValues(t *testing.T) {
	for _, c := range loops() {
		all := All(c)
		for range 2 {
			var l [][]bool
			i := 0
			want := wantNumbers(c)
			for values := range all {
				if !slices.Equal(values, wantValues(c.N, want[i])) {
					t.Error(sample.SetText(c), i, values)
				}
				_ = append(values, true, false, true)
				sample.SpoilValues(values)
				for _, before := range l {
					sample.SpoilValues(before)
				}
				l = append(l, values)
				i++
			}
			if i != len(want) {
				t.Error(sample.SetText(c), i)
			}
		}
	}
}

// What becomes of a set once All was called, be it while the loop goes on, changes no loop.
func TestAllOfChangedSet(t *testing.T) {
	for _, c := range loops() {
		want := wantNumbers(c)
		for early := range 2 {
			d := sample.RoomySet(c)
			all := All(d)
			if early == 0 {
				sample.SpoilSet(d)
			}
			for range 2 {
				i := 0
				for values := range all {
					if i == len(want) || !slices.Equal(values, wantValues(c.N, want[i])) {
						t.Fatal(sample.SetText(c), early, i, values)
					}
					sample.SpoilSet(d)
					i++
				}
				if i != len(want) {
					t.Error(sample.SetText(c), early, i)
				}
			}
		}
	}
	// A set that was not right stays so.
	d := of(2, "3;")
	all := All(d)
	d.L[0][0] = 2
	for values := range all {
		t.Error(values)
	}
}

// Where First returns an error there is a sequence, which yields nothing however often it is looped over.
func TestAllOfErrors(t *testing.T) {
	for _, c := range anySets() {
		if wantError(c) == api.OK {
			continue
		}
		all := All(c)
		if all == nil {
			t.Fatal(sample.SetText(c))
		}
		for range 2 {
			for values := range all {
				t.Error(sample.SetText(c), values)
			}
		}
	}
}

// A loop that panics does so, and the sequence is there for the next one.
func TestAllOfPanickingLoop(t *testing.T) {
	all := All(of(2, "1 2;"))
	loop := func() (said any) {
		defer func() { said = recover() }()
		for values := range all {
			if values[1] {
				panic("left")
			}
		}
		return nil
	}
	if said := loop(); said != "left" {
		t.Error(said)
	}
	if l := slices.Collect(all); len(l) != 3 {
		t.Error(l)
	}
}

// Promise 19.2: Implies.

func TestImplies(t *testing.T) {
	c := of(3, "1 -2; 2 3; -1 -3;")
	checkImplies(t, c, []int{1, 3}, true, api.OK)
	checkImplies(t, c, []int{1, 2}, false, api.OK)
	checkImplies(t, c, []int{-3, -2}, true, api.OK)
	checkImplies(t, c, []int{-3, -2, 1, 1, -1}, true, api.OK)
	checkImplies(t, c, []int{1}, false, api.OK)
	checkImplies(t, of(2, "1 2;"), []int{1}, false, api.OK)
	checkImplies(t, of(2, "1 2;"), []int{2, 1}, true, api.OK)
	checkImplies(t, of(2, "1 2; -2;"), []int{1}, true, api.OK)
	checkImplies(t, of(2, "1;"), []int{1, 2}, true, api.OK)
	checkImplies(t, of(2, "1;"), []int{2, -2}, true, api.OK)
}

// The empty clause follows from sets without an assignment alone, and from those everything does.
func TestImpliesOfEmptyClause(t *testing.T) {
	for _, c := range loops() {
		never := len(wantNumbers(c)) == 0
		checkImplies(t, c, nil, never, api.OK)
		checkImplies(t, c, []int{}, never, api.OK)
	}
	for n := 1; n <= 16; n++ {
		for _, c := range []api.Cnf{of(n, ";"), set(n, []int{n}, []int{-n})} {
			for _, clause := range [][]int{nil, {1}, {-n}, {1, -n, 1}, {n, -n}, failing(n, 0), failing(n, power(n)-1)} {
				checkImplies(t, c, clause, true, api.OK)
			}
			checkImplies(t, c, []int{n + 1}, false, api.ErrArg)
		}
	}
	checkImplies(t, of(0, ";"), nil, true, api.OK)
	checkImplies(t, api.Cnf{}, nil, false, api.OK)
}

// A clause that fails under one assignment alone follows only if that is none under which the set holds.
func TestImpliesOfOneAssignment(t *testing.T) {
	for n := 1; n <= 16; n++ {
		for _, at := range places(n) {
			clause := failing(n, at)
			checkImplies(t, set(n), clause, false, api.OK)
			checkImplies(t, only(n, at), clause, false, api.OK)
			checkImplies(t, set(n, clause), clause, true, api.OK)
			for _, l := range clause {
				checkImplies(t, only(n, at), []int{-l}, true, api.OK)
				checkImplies(t, only(n, at), []int{l}, false, api.OK)
				checkImplies(t, set(n, []int{l}), clause, true, api.OK)
			}
		}
		last := power(n) - 1
		checkImplies(t, only(n, last), failing(n, last-1), true, api.OK)
		checkImplies(t, set(n, failing(n, last-1)), failing(n, last), false, api.OK)
	}
}

// The errors of the set come first, then those of the clause, then that of too many variables.
func TestImpliesErrors(t *testing.T) {
	for _, clause := range wrongClauses() {
		e := lit.Right(clause, 17)
		for _, c := range []api.Cnf{set(16), of(16, ";"), of(16, "1; -1;"), set(17), of(17, "17;"), of(17, ";")} {
			checkImplies(t, c, clause, false, e)
		}
		checkImplies(t, set(16, clause), []int{1}, false, e)
		checkImplies(t, set(17, clause), []int{1}, false, e)
		for _, other := range wrongClauses() {
			checkImplies(t, set(16, clause), other, false, e)
			checkImplies(t, set(17, nil, clause), other, false, e)
			checkImplies(t, set(-1, clause), other, false, api.ErrArg)
			checkImplies(t, set(1025), other, false, api.ErrArg)
			checkImplies(t, set(17, slices.Repeat([][]int{clause}, 4097)...), other, false, api.ErrLong)
			checkImplies(t, set(16, slices.Repeat([][]int{nil}, 4097)...), other, false, api.ErrLong)
		}
	}
	for _, n := range []int{17, 18, 1024} {
		checkImplies(t, set(n), nil, false, api.ErrLong)
		checkImplies(t, of(n, ";"), []int{1}, false, api.ErrLong)
		checkImplies(t, set(n), []int{n, -n}, false, api.ErrLong)
		checkImplies(t, set(n), []int{n + 1}, false, api.ErrArg)
		checkImplies(t, set(n), []int{0}, false, api.ErrArg)
	}
	for n := range 17 {
		checkImplies(t, set(n), []int{-n - 1}, false, api.ErrArg)
		checkImplies(t, of(n, ";"), []int{n + 1}, false, api.ErrArg)
		if n > 0 {
			checkImplies(t, set(n), slices.Repeat([]int{n, -n}, 32), true, api.OK)
			checkImplies(t, set(n), slices.Repeat([]int{n, -n, n}, 22), false, api.ErrLong)
		}
	}
}

func TestImpliesFollowsTheChapter(t *testing.T) {
	found := map[bool]int{}
	for _, c := range rightSets(2) {
		for _, clause := range append(critical(), []int{4, 1}, []int{-4, -1, 2}, []int{5}) {
			is, e := followImplies(t, c, clause)
			if e == api.OK {
				found[is]++
			}
		}
	}
	if found[true] < 500 || found[false] < 500 {
		t.Error(found)
	}
	errors := map[api.Errno]int{}
	for _, c := range anySets() {
		if wantError(c) != api.OK {
			for _, clause := range append(wrongClauses(), nil, []int{1}) {
				_, e := followImplies(t, c, clause)
				errors[e]++
			}
		}
	}
	if l := sample.Rare(errors, 500, api.ErrArg, api.ErrLong); len(l) > 0 {
		t.Error(errors)
	}
}

// Promise 19.2: Equal.

func TestEqual(t *testing.T) {
	c := of(3, "1 -2; 2 3; -1 -3;")
	checkAlike(t, c, c, true)
	checkAlike(t, c, sample.TwinSet(c), true)
	checkAlike(t, c, of(3, "3 1; 1 -2; -3 -2; 2 3; -3 -1;"), true)
	checkAlike(t, c, of(3, "2 3; -1 -3;"), false)
	checkAlike(t, c, of(3, "1 -2; 2 3; -1 -3; 1 2;"), false)
	checkAlike(t, c, set(3), false)
	checkAlike(t, api.Cnf{}, set(0, [][]int{}...), true)
	checkAlike(t, api.Cnf{}, of(0, ";"), false)
	checkAlike(t, of(0, ";"), of(0, ";;"), true)
	checkAlike(t, of(2, "1; 2;"), of(2, "2 2; 1; 1; 1 -1;"), true)
	checkAlike(t, of(2, "1;"), of(2, "1 2; 1 -2;"), true)
	checkAlike(t, of(2, "1;"), of(2, "2;"), false)
	checkAlike(t, of(2, "1;"), of(2, "-1;"), false)
	// As many assignments, but others.
	checkAlike(t, of(2, "1; 2;"), of(2, "-1; -2;"), false)
	// None at all, however that comes about.
	checkAlike(t, of(2, "1; -1;"), of(2, "2; -2; 1;"), true)
	checkAlike(t, of(2, ";"), of(2, "1 2; -1 2; 1 -2; -1 -2;"), true)
	checkAlike(t, of(2, "1 -1; 2 -2;"), set(2), true)
}

func TestEqualAtOneAssignment(t *testing.T) {
	for n := range 17 {
		for _, at := range places(n) {
			without := set(n, failing(n, at))
			checkAlike(t, set(n), without, false)
			checkAlike(t, only(n, at), of(n, ";"), false)
			checkAlike(t, without, without, true)
			checkAlike(t, only(n, at), only(n, at), true)
			checkAlike(t, set(n, append(only(n, at).L, failing(n, at))...), of(n, ";"), true)
			if other := power(n) - 1 - at; other != at {
				checkAlike(t, without, set(n, failing(n, other)), false)
				checkAlike(t, only(n, at), only(n, other), false)
			}
		}
	}
}

func TestEqualOfAnotherOrder(t *testing.T) {
	next := sample.Scattered(88172645463325252)
	for range 300 {
		c := sample.WildSet(next, 1+next(7), 12, 4)
		d := sample.TwinSet(c)
		slices.Reverse(d.L)
		for _, l := range d.L {
			slices.Reverse(l)
		}
		checkAlike(t, c, d, true)
		checkAlike(t, c, set(c.N, append(d.L, c.L...)...), true)
		checkAlike(t, c, cnf.Clean(d), true)
	}
}

// The errors of the first set come first, then those of the second, then that of different N, then that of too many variables.
func TestEqualErrors(t *testing.T) {
	for _, clause := range wrongClauses() {
		e := lit.Right(clause, 17)
		for _, n := range []int{16, 17} {
			wrong := set(n, []int{1}, clause)
			for _, right := range []api.Cnf{set(16), set(17), of(0, ";"), set(1024)} {
				checkEqual(t, wrong, right, false, e)
				checkEqual(t, right, wrong, false, e)
			}
			for _, other := range wrongClauses() {
				checkEqual(t, wrong, set(16, other), false, e)
				checkEqual(t, wrong, set(17, other), false, e)
			}
			checkEqual(t, wrong, set(-1), false, e)
			checkEqual(t, set(-1), wrong, false, api.ErrArg)
			checkEqual(t, set(17, slices.Repeat([][]int{nil}, 4097)...), wrong, false, api.ErrLong)
		}
	}
	many := slices.Repeat([][]int{nil}, 4097)
	for n := range 20 {
		checkEqual(t, set(n), set(n+1), false, api.ErrArg)
		checkEqual(t, set(n+1), set(n), false, api.ErrArg)
		checkEqual(t, of(n, ";"), of(n+1, ";"), false, api.ErrArg)
		checkEqual(t, set(n), set(-n-1), false, api.ErrArg)
		checkEqual(t, set(n), set(n+1, many...), false, api.ErrLong)
		checkEqual(t, set(n, many...), set(n+1, []int{0}), false, api.ErrLong)
		checkEqual(t, set(n, []int{0}), set(n+1, many...), false, api.ErrArg)
	}
	for _, n := range []int{17, 18, 1023, 1024} {
		checkEqual(t, set(n), set(n), false, api.ErrLong)
		checkEqual(t, of(n, "1;"), of(n, "-1;"), false, api.ErrLong)
		checkEqual(t, set(n), set(3), false, api.ErrArg)
		checkEqual(t, set(3), set(n), false, api.ErrArg)
		checkEqual(t, set(n), set(n, []int{n + 1}), false, api.ErrArg)
	}
	for _, n := range []int{lowest, -1, 1025, greatest} {
		checkEqual(t, set(n), set(n), false, api.ErrArg)
		checkEqual(t, set(2), set(n), false, api.ErrArg)
		checkEqual(t, set(n), set(2, many...), false, api.ErrArg)
		checkEqual(t, set(2, many...), set(n), false, api.ErrLong)
	}
}

func TestEqualFollowsTheChapter(t *testing.T) {
	found := map[bool]int{}
	l := rightSets(2)
	for _, a := range l {
		for _, b := range l {
			is, _ := followEqual(t, a, b)
			found[is]++
		}
	}
	if found[true] < 500 || found[false] < 500 {
		t.Error(found)
	}
	errors := map[api.Errno]int{}
	for _, a := range anySets() {
		for _, b := range []api.Cnf{set(1), set(17), set(17, nil), set(17, []int{0}), set(17, rising(65)), set(-1)} {
			for _, pair := range [][]api.Cnf{{a, b}, {b, a}} {
				if _, e := wantEqual(pair[0], pair[1]); e != api.OK {
					followEqual(t, pair[0], pair[1])
					errors[e]++
				}
			}
		}
	}
	if l := sample.Rare(errors, 500, api.ErrArg, api.ErrLong); len(l) > 0 {
		t.Error(errors)
	}
}

// All promises.

func TestScatteredFollowTheChapter(t *testing.T) {
	next := sample.Scattered(362436069362436069)
	found := map[api.Errno]int{}
	implied := 0
	for range 4000 {
		n := 1 + next(7)
		c := sample.WildSet(next, n, 14, 4)
		if next(8) == 0 {
			c = sample.WildSet(next, n, 6, 4, 0, lowest, n+1)
		}
		found[followSet(t, c)]++
		d := sample.WildSet(next, n, 1, 4)
		if len(d.L) > 0 {
			if is, _ := followImplies(t, c, d.L[0]); is {
				implied++
			}
		}
		followEqual(t, c, cnf.Add(c, d.L...))
		followEqual(t, c, d)
	}
	if l := sample.Rare(found, 200, api.OK, api.ErrArg); len(l) > 0 || implied < 200 {
		t.Error(found, implied)
	}
}

// Promise 19.3.

// Adding an implied clause removes no assignment; adding another one does.
func TestImpliedClausesRemoveNothing(t *testing.T) {
	found := map[bool]int{}
	for _, c := range rightSets(2) {
		for _, clause := range critical() {
			implied, e := Implies(c, clause)
			more := cnf.Add(c, clause)
			n, _ := Count(c)
			m, _ := Count(more)
			same, _ := Equal(c, more)
			if e != api.OK || implied != same || implied != (n == m) || m > n {
				t.Error(sample.SetText(c), clause, implied, e, same, n, m)
			}
			if implied {
				checkSet(t, more, api.OK, wantNumbers(c)...)
			}
			found[implied]++
		}
	}
	if found[true] < 500 || found[false] < 500 {
		t.Error(found)
	}
}

// What holds for all layers.

// Sets at the limits end soon, also where the clauses are as long as they may be and hold by their last literals.
func TestSetsAtTheLimits(t *testing.T) {
	long := func(l ...int) []int { return append(slices.Repeat([]int{1}, 64-len(l)), l...) }
	full := slices.Repeat([][]int{long(), long(2), long(-2, 3)}, 1366)[:4096]
	c := set(16, full...)
	checkCount(t, c, api.OK, 32768)
	checkCount(t, set(16, append(full[1:], long(-1))...), api.OK, 32768)
	checkCount(t, set(16, append(full[1:], []int{-1})...), api.OK, 0)
	checkImplies(t, c, long(), true, api.OK)
	checkImplies(t, c, slices.Repeat([]int{-1}, 64), false, api.OK)
	checkAlike(t, c, of(16, "1;"), true)
	checkAlike(t, c, set(16, append(full[1:], []int{1, -16})...), true)
	checkAlike(t, c, set(16, append(full[1:], []int{-1, -16})...), false)
	excluded := set(16)
	for at := range 4096 {
		excluded.L = append(excluded.L, failing(16, at*16+15))
	}
	checkCount(t, excluded, api.OK, 61440)
	checkImplies(t, excluded, []int{-1, -2, -3, -4}, true, api.OK)
	checkAlike(t, excluded, of(16, "-1 -2 -3 -4;"), true)
}

// Sets and clauses of any length are taken, also far beyond what may be.
func TestLongSets(t *testing.T) {
	const n = 1 << 17
	for _, c := range []api.Cnf{set(3, slices.Repeat([][]int{{1}}, n)...), set(3, rising(n)), set(17, rising(n)), set(3, nil, make([]int, n))} {
		checkSet(t, c, api.ErrLong)
		checkImplies(t, c, []int{1}, false, api.ErrLong)
		checkImplies(t, set(3), rising(n), false, api.ErrLong)
		checkEqual(t, c, set(3), false, api.ErrLong)
		checkEqual(t, set(3), c, false, api.ErrLong)
	}
}

// Nothing is written over the arguments, nor behind them.
func TestArgumentsStay(t *testing.T) {
	for _, clauses := range sample.Choices(2, append(critical(), []int{0, 1}, []int{-4})...) {
		c, d := sample.RoomySet(set(3, clauses...)), sample.RoomySet(of(3, "2 1 1; -1 2; 1 2;"))
		clause := sample.Roomy([]int{3, 1, 3}, 2)
		arguments := sample.WholeSet(c).With(sample.WholeSet(d)).With(sample.Clauses(clause[:cap(clause)]))
		said := arguments.Changed(func() {
			First(c)
			Count(c)
			for values := range All(c) {
				sample.SpoilValues(values)
			}
			Implies(c, clause)
			Equal(c, d)
			Equal(d, c)
			Equal(c, c)
		})
		if said != "" {
			t.Error(said)
		}
	}
}

// A changed argument changes no answer that was there, and a changed answer no later one.
func TestAnswersStay(t *testing.T) {
	for _, l := range []string{"", ";", "1;", "2 1; -1;", "1 -1; 2;", "3 -2 3; -2 3; 1;", "4;"} {
		c := sample.RoomySet(of(3, l))
		both := func() sample.Data {
			first, _, _ := First(c)
			return sample.Values(slices.Insert(slices.Collect(All(c)), 0, first)...)
		}
		if said := sample.Tied(both, sample.Sets(c)); said != "" {
			t.Error(said)
		}
	}
	if said := sample.Tied(func() sample.Data { return sample.Values(Values(4, 5), Values(0, 0)) }, sample.Data{}); said != "" {
		t.Error(said)
	}
}
