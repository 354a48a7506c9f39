package cnf

import (
	"math"
	"slices"
	"testing"

	"sequitur/api"
	"sequitur/lit"
	"sequitur/sample"
)

const (
	lowest   = math.MinInt
	greatest = math.MaxInt
)

var of, set, put, rising = sample.SetOf, sample.Set, sample.Put[[]int], sample.Rising

// many are n clauses, those of c again and again.
func many(n int, c ...[]int) [][]int { return slices.Repeat(c, n/len(c)+1)[:n] }

// wrongClauses are clauses of the variables 1 to 64 that are not right, and their errors.
func wrongClauses() (clauses [][]int, errors []api.Errno) {
	for _, l := range []int{0, lowest, lowest + 1, greatest, 65, -65} {
		for _, c := range [][]int{{l}, {1, l}, {l, -1}, {1, l, 1}, append(rising(63), l), append([]int{l}, rising(63)...)} {
			clauses, errors = append(clauses, c), append(errors, api.ErrArg)
		}
		for _, c := range [][]int{append(rising(64), l), append([]int{l}, rising(64)...), slices.Repeat([]int{l}, 65)} {
			clauses, errors = append(clauses, c), append(errors, api.ErrLong)
		}
	}
	for _, size := range []int{65, 66, 1000} {
		clauses, errors = append(clauses, slices.Repeat([]int{-1}, size)), append(errors, api.ErrLong)
	}
	return clauses, errors
}

// critical are clauses at which something changes.
func critical() [][]int {
	return [][]int{nil, {1}, {-1}, {1, -2}, {-2, 1, 1}, {2, -2}, {-1, 2, 1}, {3}, {0}, {lowest, 1}, {1024, -1024}, {-1025}, {greatest, -greatest}}
}

// values are all values of at most n variables.
func values(n int) [][]bool { return sample.Choices(n, true, false) }

// Promise 18.1.

func TestRight(t *testing.T) {
	checkRight(t, api.Cnf{}, 0, api.OK)
	checkRight(t, of(2, "1 -2;;"), 0, api.OK)
	checkRight(t, of(3, "1 -2 1; 3; 2 -2; -2 1;"), 0, api.OK)
	checkRight(t, of(3, ";;;"), 0, api.OK)
	checkRight(t, of(0, ";"), 0, api.OK)
	checkRight(t, of(0, "1;"), 0, api.ErrArg)
	checkRight(t, of(1, "1; 2;"), 1, api.ErrArg)
	checkRight(t, of(1, "1; 1 -1; 1 -2 1; 0;"), 2, api.ErrArg)
	checkRight(t, of(1024, "1024; -1024 1;"), 0, api.OK)
	checkRight(t, of(1024, "1024; -1025 1;"), 1, api.ErrArg)
	checkRight(t, of(9, "1;;3 0;"), 2, api.ErrArg)
}

func TestTexts(t *testing.T) {
	for want, c := range map[string]api.Cnf{
		"p cnf 0 0\n":            {},
		"p cnf 7 0\n":            of(7, ""),
		"p cnf 0 1\n0\n":         of(0, ";"),
		"p cnf 2 2\n1 -2 0\n0\n": of(2, "1 -2;;"),
		"p cnf 1024 2\n-1024 1024 -1024 0\n1000 0\n": of(1024, "-1024 1024 -1024; 1000;"),
		"p cnf 10 4\n10 0\n0\n2 1 0\n2 1 0\n":        of(10, "10;;2 1;2 1;"),
		"p cnf 3 4\n1 -2 1 0\n3 0\n2 -2 0\n-2 1 0\n": of(3, "1 -2 1; 3; 2 -2; -2 1;"),
	} {
		if s, e := Text(c); s != want || e != api.OK {
			t.Errorf("%q, %d; want %q", s, e, want)
		}
	}
}

// Whether N is in its range is asked ahead of all else.
func TestRightOfN(t *testing.T) {
	if api.MaxLitVar != 1024 {
		t.Error(api.MaxLitVar)
	}
	for n, e := range map[int]api.Errno{lowest: api.ErrArg, -1024: api.ErrArg, -2: api.ErrArg, -1: api.ErrArg, 0: api.OK, 1: api.OK, 1023: api.OK, 1024: api.OK, 1025: api.ErrArg, 1026: api.ErrArg, 1 << 32: api.ErrArg, greatest: api.ErrArg} {
		at := 0
		if e != api.OK {
			at = -1
		}
		checkRight(t, set(n), at, e)
		checkRight(t, of(n, ";"), at, e)
		checkRight(t, set(n, many(4096, nil)...), at, e)
		if e != api.OK {
			checkRight(t, of(n, "1;"), -1, api.ErrArg)
			checkRight(t, of(n, "0;"), -1, api.ErrArg)
			checkRight(t, set(n, rising(65)), -1, api.ErrArg)
			checkRight(t, set(n, many(4097, nil)...), -1, api.ErrArg)
			checkRight(t, set(n, many(5000, rising(65), []int{0})...), -1, api.ErrArg)
		}
	}
}

// How many clauses there are is asked ahead of what they are.
func TestRightAtTheLimit(t *testing.T) {
	if api.MaxClause != 4096 || api.MaxLits != 64 {
		t.Error(api.MaxClause, api.MaxLits)
	}
	clauses, errors := wrongClauses()
	for _, n := range []int{4094, 4095, 4096, 4097, 4098, 10000} {
		at, e := 0, api.OK
		if n > 4096 {
			at, e = -1, api.ErrLong
		}
		checkRight(t, set(0, many(n, nil)...), at, e)
		checkRight(t, set(64, many(n, nil, []int{1, -64}, []int{2})...), at, e)
		for i, place := range []int{0, n / 2, n - 1} {
			if e == api.OK {
				checkRight(t, set(64, put(many(n, nil), place, clauses[i])...), place, errors[i])
			} else {
				checkRight(t, set(64, put(many(n, nil), place, clauses[i])...), -1, api.ErrLong)
			}
		}
	}
	full := many(4096, rising(64))
	checkRight(t, set(64, full...), 0, api.OK)
	checkRight(t, set(63, full...), 0, api.ErrArg)
	for i, place := range []int{0, 1, 2048, 4094, 4095} {
		checkRight(t, set(64, put(full, place, rising(65))...), place, api.ErrLong)
		checkRight(t, set(64, put(full, place, clauses[i])...), place, errors[i])
		checkRight(t, set(64, append(put(full, place, clauses[i]), nil)...), -1, api.ErrLong)
	}
}

func TestRightOfEachClause(t *testing.T) {
	right := [][]int{nil, {1}, rising(64), slices.Repeat([]int{-1, 1}, 32), {64, -64}}
	clauses, errors := wrongClauses()
	for i, wrong := range clauses {
		for n := 1; n <= 5; n++ {
			for place := range n {
				checkRight(t, set(64, put(right[:n], place, wrong)...), place, errors[i])
			}
		}
	}
	// Of two that are not right the first one counts.
	for i, first := range clauses {
		for _, second := range clauses {
			checkRight(t, set(64, nil, first, second, nil), 1, errors[i])
			checkRight(t, set(64, first, nil, second), 0, errors[i])
		}
	}
}

// sets are all sets of at most most of the critical clauses, with every N at which something changes.
func sets(most int) []api.Cnf {
	var l []api.Cnf
	for _, clauses := range sample.Choices(most, critical()...) {
		for _, n := range []int{lowest, -1, 0, 1, 2, 3, 1023, 1024, 1025, greatest} {
			l = append(l, set(n, clauses...))
		}
	}
	return l
}

func TestRightFollowsTheChapter(t *testing.T) {
	found := map[api.Errno]int{}
	for _, c := range sets(3) {
		found[followRight(t, c)]++
	}
	if l := sample.Rare(found, 300, api.OK, api.ErrArg); len(l) > 0 {
		t.Error(found)
	}
}

// Promise 18.3.

func TestHolds(t *testing.T) {
	c := of(3, "1 -2 1; 3; 2 -2; -2 1;")
	checkHolds(t, c, []bool{true, false, true}, 0, true)
	checkHolds(t, c, []bool{true, true, true}, 0, true)
	checkHolds(t, c, []bool{true, false, false}, 1, false)
	checkHolds(t, c, []bool{false, true, true}, 0, false)
	checkHolds(t, c, []bool{false, false, true}, 0, true)
	checkHolds(t, c, []bool{true, true, true, false, false}, 0, true)
	checkHolds(t, of(2, "1; 2; -1 -2;"), []bool{true, true}, 2, false)
	checkHolds(t, of(2, "1; 2; -1 -2;"), []bool{true, false}, 1, false)
	checkHolds(t, of(2, "1; 2; -1 -2;"), []bool{false, false}, 0, false)
}

// A set without clauses holds, one with the empty clause never does.
func TestHoldsOfNoClauses(t *testing.T) {
	for _, l := range values(3) {
		checkHolds(t, api.Cnf{}, l, 0, true)
		checkHolds(t, of(3, ""), l, 0, true)
		checkHolds(t, set(-1, [][]int{}...), l, 0, true)
		checkHolds(t, of(3, ";"), l, 0, false)
		checkHolds(t, of(3, "0;"), l, 0, false)
		checkHolds(t, set(3, []int{lowest, 0}), l, 0, false)
		if len(l) > 0 && l[0] {
			checkHolds(t, of(3, "1;1;;1;"), l, 2, false)
			checkHolds(t, of(0, "1;1;0 1;1;"), l, 0, true)
		}
	}
	checkHolds(t, api.Cnf{}, nil, 0, true)
	checkHolds(t, of(0, ";"), nil, 0, false)
}

// Neither literal of a variable beyond the values holds, whatever N is.
func TestHoldsBeyondTheValues(t *testing.T) {
	checkHolds(t, of(2, "1 -1;"), nil, 0, false)
	checkHolds(t, of(2, "1 -1;"), []bool{}, 0, false)
	checkHolds(t, of(2, "1 -1; 2 -2;"), []bool{false}, 1, false)
	checkHolds(t, of(2, "1 -1; 2 -2; 1;"), []bool{false, false}, 2, false)
	checkHolds(t, of(0, "1; 2; -3;"), []bool{true, true, false}, 0, true)
	checkHolds(t, of(0, "1; 2; -3; 4 -4;"), []bool{true, true, false}, 3, false)
	checkHolds(t, set(1, []int{1}, []int{greatest, -greatest, lowest}), []bool{true}, 1, false)
}

func TestHoldsAtEachPlace(t *testing.T) {
	holds, fails := []int{-2, 1}, []int{2, -1}
	l := []bool{true, false}
	for _, n := range []int{1, 2, 3, 10, 4096, 5000} {
		checkHolds(t, set(2, many(n, holds)...), l, 0, true)
		checkHolds(t, set(2, many(n, fails)...), l, 0, false)
		for _, place := range []int{0, n / 2, n - 1} {
			checkHolds(t, set(2, put(many(n, holds), place, fails)...), l, place, false)
			checkHolds(t, set(2, append(put(many(n, holds), place, nil), fails)...), l, place, false)
		}
	}
}

func TestClean(t *testing.T) {
	checkClean(t, api.Cnf{}, api.Cnf{})
	checkClean(t, of(5, ""), of(5, ""))
	checkClean(t, of(3, "1 -2 1; 3; 2 -2; -2 1;"), of(3, "1 -2; 3;"))
	checkClean(t, of(3, "3 2 1;"), of(3, "1 2 3;"))
	checkClean(t, of(3, "-3 2 -1 2 -3;"), of(3, "-1 2 -3;"))
	checkClean(t, of(3, ";"), of(3, ";"))
	checkClean(t, of(3, ";;1;;"), of(3, ";1;"))
}

// A clause with opposites goes, however often it stands there and wherever they do.
func TestCleanOfOpposites(t *testing.T) {
	checkClean(t, of(1, "1 -1;"), of(1, ""))
	checkClean(t, of(1, "-1 1; 1 -1; 1;"), of(1, "1;"))
	checkClean(t, of(4, "1 2 3 4 -1; 4; 1 -4 2 4 3; -4; 2 1 -2;"), of(4, "4; -4;"))
	checkClean(t, of(4, "1; -1;"), of(4, "1; -1;"))
	checkClean(t, set(1, []int{greatest, -greatest}, []int{-greatest}), set(1, []int{-greatest}))
	for place := range 64 {
		checkClean(t, set(64, rising(64), append(rising(64), -place-1)), set(64, rising(64)))
	}
}

// Of those that are the same the first one stays, though they may be written otherwise.
func TestCleanOfTheSame(t *testing.T) {
	checkClean(t, of(3, "1; 2; 1; 3; 2; 1;"), of(3, "1; 2; 3;"))
	checkClean(t, of(3, "3; 2; 1; 2; 3; 1;"), of(3, "3; 2; 1;"))
	checkClean(t, of(3, "2 1; 3; 1 2; 2 1 2; 1 2 3; 3 3;"), of(3, "1 2; 3; 1 2 3;"))
	checkClean(t, of(3, "1 2 3; 1 2; 1; ; 1; 1 2; 2 1 3;"), of(3, "1 2 3; 1 2; 1; ;"))
	checkClean(t, of(3, "1 2; 1 -2; -1 2; -1 -2; 1 2; -2 -1;"), of(3, "1 2; 1 -2; -1 2; -1 -2;"))
	checkClean(t, of(12, "12; 1 2; 1; 2;"), of(12, "12; 1 2; 1; 2;"))
	checkClean(t, set(64, many(4096, rising(64))...), set(64, rising(64)))
}

// Numbers that are no literals go, and so may make clauses the same; N stays as it is.
func TestCleanOfNoLiterals(t *testing.T) {
	checkClean(t, of(2, "0;"), of(2, ";"))
	checkClean(t, set(2, []int{lowest}, []int{0, lowest}, nil), of(2, ";"))
	checkClean(t, of(2, "1 0; 1; 0 1 0;"), of(2, "1;"))
	checkClean(t, set(2, []int{lowest, 2, 1}, []int{1, 2, 0}, []int{2}), of(2, "1 2; 2;"))
	for _, n := range []int{lowest, -1, 0, 1, 1025, greatest} {
		checkClean(t, of(n, "7 7; 5 3; 7;"), of(n, "7; 3 5;"))
	}
	checkClean(t, set(0, []int{greatest, lowest + 2, 1}), set(0, []int{1, lowest + 2, greatest}))
}

func TestAdd(t *testing.T) {
	checkAdd(t, api.Cnf{}, nil, api.Cnf{})
	checkAdd(t, of(3, "1; 2;"), nil, of(3, "1; 2;"))
	checkAdd(t, of(3, "1; 2;"), [][]int{}, of(3, "1; 2;"))
	checkAdd(t, of(3, "1; 2;"), [][]int{{3}}, of(3, "1; 2; 3;"))
	checkAdd(t, of(3, "1; 2;"), [][]int{nil}, of(3, "1; 2; ;"))
	checkAdd(t, of(3, ""), [][]int{{-1, 3}, nil, {2}}, of(3, "-1 3; ; 2;"))
	checkAdd(t, of(3, "1 2; ;"), [][]int{nil, {2, 1}, {1, 2}, {1, 2}}, of(3, "1 2; ; ; 2 1; 1 2; 1 2;"))
	// Whatever they are, they are added as they are, and N stays.
	checkAdd(t, of(1, "0; 2 -2;"), [][]int{{0, 1, 1, 0}, {-1025, lowest, greatest}, {1, -1}}, set(1, []int{0}, []int{2, -2}, []int{0, 1, 1, 0}, []int{-1025, lowest, greatest}, []int{1, -1}))
	for _, n := range []int{lowest, -1, 0, 1024, 1025, greatest} {
		checkAdd(t, set(n), [][]int{{7}}, of(n, "7;"))
	}
	checkAdd(t, set(1, many(4096, nil)...), [][]int{{1}}, set(1, put(many(4097, nil), 4096, []int{1})...))
	checkAdd(t, set(1, rising(65)), many(5000, rising(65)), set(1, many(5001, rising(65))...))
}

// Clauses in the same memory, or that are those of the set, are in memory of their own when they are added.
func TestAddOfOneClauseTwice(t *testing.T) {
	one := []int{1, -2}
	c := set(2, one, one)
	checkAdd(t, c, [][]int{one, one[:1], one}, of(2, "1 -2; 1 -2; 1 -2; 1; 1 -2;"))
	checkAdd(t, c, c.L, of(2, "1 -2; 1 -2; 1 -2; 1 -2;"))
	l := many(8, one)
	checkAdd(t, set(2, l[:3]...), l[1:5], set(2, many(7, one)...))
}

func TestVars(t *testing.T) {
	checkVars(t, api.Cnf{})
	checkVars(t, of(5, ""))
	checkVars(t, of(5, ";;"))
	checkVars(t, of(5, "3;"), 3)
	checkVars(t, of(5, "-3;"), 3)
	checkVars(t, of(3, "1 -2 1; 3; 2 -2; -2 1;"), 1, 2, 3)
	checkVars(t, of(5, "5 -1; ; 1 5; -5;"), 1, 5)
	checkVars(t, of(9, "2 -2; -9; 2; 9;"), 2, 9)
	checkVars(t, of(20, "10 9; -11 2; 1;"), 1, 2, 9, 10, 11)
	// Numbers that are no literals have none, and N says nothing.
	checkVars(t, set(5, []int{0, lowest}, []int{lowest}, []int{0}))
	checkVars(t, set(5, []int{0, 4, lowest}, []int{-2, 0}), 2, 4)
	checkVars(t, set(-1, []int{greatest, 1025}, []int{-greatest, -1}), 1, 1025, greatest)
	checkVars(t, set(64, many(4096, rising(64))...), rising(64)...)
}

func TestSame(t *testing.T) {
	checkSame(t, api.Cnf{}, api.Cnf{}, true)
	checkSame(t, api.Cnf{}, set(0, [][]int{}...), true)
	checkSame(t, of(3, "1 2; 3;"), of(3, "1 2; 3;"), true)
	checkSame(t, of(3, "1 2; 3;"), of(3, "2 1 2; 3 3;"), true)
	checkSame(t, of(3, "2 -2; -1;"), of(3, "-2 2; -1;"), true)
	checkSame(t, of(3, "1 0; ;"), set(3, []int{lowest, 1}, []int{0}), true)
	checkSame(t, of(3, ";"), of(3, ";"), true)
	// Another N.
	checkSame(t, of(3, "1 2; 3;"), of(4, "1 2; 3;"), false)
	checkSame(t, set(0), set(1), false)
	checkSame(t, set(1), set(-1), false)
	checkSame(t, set(lowest), set(greatest), false)
	for _, n := range []int{lowest, -1, 1025, greatest} {
		checkSame(t, of(n, "5; 6;"), of(n, "5 5; 6;"), true)
	}
	// Another order of the clauses, more of them, and others.
	checkSame(t, of(3, "1 2; 3;"), of(3, "3; 1 2;"), false)
	checkSame(t, of(3, "1; 1;"), of(3, "1;"), false)
	checkSame(t, of(3, ""), of(3, ";"), false)
	checkSame(t, of(3, "1;"), of(3, "1; ;"), false)
	checkSame(t, of(3, "1; 2;"), of(3, "1 2;"), false)
	checkSame(t, of(3, "1 2; 3;"), of(3, "1 2; -3;"), false)
	checkSame(t, of(3, "1 2; 3;"), of(3, "1; 3;"), false)
	checkSame(t, of(3, "1 2; 3;"), of(3, "1 2 3; 3;"), false)
	checkSame(t, of(3, "1 -1;"), of(3, ""), false)
	for _, n := range []int{1, 2, 3, 4096, 5000} {
		whole := many(n, []int{1, -2}, nil, []int{3})
		for _, place := range []int{0, n / 2, n - 1} {
			checkSame(t, set(3, whole...), set(3, put(whole, place, []int{4})...), false)
		}
		checkSame(t, set(3, whole...), set(3, slices.Concat(whole, [][]int{nil})...), false)
	}
}

// The calls of one set, and of one with values, follow the chapter for all small sets of clauses at which something changes.
func TestSetsFollowTheChapter(t *testing.T) {
	l := values(2)
	for _, c := range sets(2) {
		followSet(t, c)
	}
	for _, clauses := range sample.Choices(3, critical()...) {
		followSet(t, set(2, clauses...))
		for _, v := range l {
			followHolds(t, set(2, clauses...), v)
		}
	}
}

// The calls of two sets follow the chapter for all pairs of small ones.
func TestPairsFollowTheChapter(t *testing.T) {
	lists := sample.Choices(2, critical()[:10]...)
	for _, a := range lists {
		for _, b := range lists {
			followSame(t, set(2, a...), set(2, b...))
			followAdd(t, set(2, a...), b)
		}
	}
}

func TestScatteredFollowTheChapter(t *testing.T) {
	next := sample.Scattered(362436069362436069)
	found := map[api.Errno]int{}
	for range 6000 {
		c := sample.WildSet(next, 1+next(4), 12, 5)
		if next(2) == 0 {
			c = sample.WildSet(next, 1+next(4), 12, 5, 0, lowest, 5)
		}
		found[followRight(t, c)]++
		followSet(t, c)
		for range 4 {
			v := make([]bool, next(6))
			for i := range v {
				v[i] = next(2) == 0
			}
			followHolds(t, c, v)
		}
		d := sample.TwinSet(c)
		for _, l := range d.L {
			slices.Reverse(l)
		}
		followSame(t, c, d)
		followAdd(t, c, d.L)
		if len(d.L) > 0 {
			d.L[next(len(d.L))] = []int{next(5) - 2}
			followSame(t, c, d)
		}
	}
	if l := sample.Rare(found, 500, api.OK, api.ErrArg); len(l) > 0 {
		t.Error(found)
	}
}

// Promise 18.4, of cleaned sets; what it says of texts stands with those.

// A cleaned set holds under the same values, if all variables have one; if some have none, a clause that goes for its opposites need not have held.
func TestCleanHoldsAlike(t *testing.T) {
	all := values(3)
	n := 0
	for _, clauses := range sample.Choices(3, nil, []int{1}, []int{-2, 1, 1}, []int{2, -2}, []int{-1, 0}, []int{3, 2}, []int{2, 3, lowest}, []int{-3, -3}, []int{1, 3, -1}) {
		c := set(3, clauses...)
		clean := Clean(c)
		if again := Clean(clean); !sample.EqualSets(clean, again) || !slices.Equal(Vars(clean), Vars(again)) {
			t.Fatal(clean, again)
		}
		for _, l := range all {
			_, before := Holds(c, l)
			_, after := Holds(clean, l)
			if before && !after || len(l) == 3 && before != after {
				t.Fatal(c, clean, l)
			}
			if after {
				n++
			}
		}
	}
	if n < 500 {
		t.Error(n)
	}
}

func TestCleanIsRight(t *testing.T) {
	for _, c := range sets(2) {
		clean := Clean(c)
		if _, e := Right(c); e != api.OK {
			continue
		}
		if at, e := Right(clean); e != api.OK || clean.N != c.N || len(clean.L) > len(c.L) {
			t.Error(c, clean, at, e)
		}
		for _, l := range clean.L {
			if again, ok := lit.Clean(l); !ok || !slices.Equal(l, again) {
				t.Error(c, clean)
			}
		}
	}
}

// What holds for all layers.

// Sets of any size are taken, also far beyond what Right lets be.
func TestLongSets(t *testing.T) {
	const n = 1 << 15
	l := make([][]int, n)
	for i := range l {
		l[i] = []int{n - i, -i - 1, n - i}
	}
	c := set(n, l...)
	checkRight(t, c, -1, api.ErrArg)
	checkRight(t, set(5, l...), -1, api.ErrLong)
	checkVars(t, c, rising(n)...)
	checkAdd(t, c, l, set(n, slices.Concat(l, l)...))
	checkSame(t, c, sample.TwinSet(c), true)
	checkSame(t, c, set(n, put(l, n-1, nil)...), false)
	up := slices.Repeat([]bool{true}, n)
	checkHolds(t, c, up, 0, true)
	checkHolds(t, c, up[1:], 0, false)
	checkHolds(t, set(n, put(l, n-1, []int{-n, n + 1})...), up, n-1, false)
	// None has opposites, as n is even, and no two are the same.
	clean := set(n)
	for i := range n {
		low, high := -i-1, n-i
		if -low > high {
			low, high = high, low
		}
		clean.L = append(clean.L, []int{low, high})
	}
	checkClean(t, c, clean)
	checkClean(t, Add(c, l...), clean)
	wide := set(3, slices.Repeat(rising(n), 8))
	checkRight(t, wide, 0, api.ErrLong)
	checkClean(t, wide, set(3, rising(n)))
	checkVars(t, wide, rising(n)...)
	checkAdd(t, wide, wide.L, set(3, wide.L[0], wide.L[0]))
}

// Nothing is written over the arguments, nor behind them.
func TestArgumentsStay(t *testing.T) {
	for _, clauses := range sample.Choices(2, critical()...) {
		c, d := sample.RoomySet(set(2, clauses...)), sample.RoomySet(of(2, "2 1 1; ; -1 2; 1 2;"))
		v := sample.Roomy([]bool{true, false}, true)
		arguments := sample.WholeSet(c).With(sample.WholeSet(d)).With(sample.Values(v[:cap(v)]))
		said := arguments.Changed(func() {
			Right(c)
			Text(c)
			Holds(c, v)
			Clean(c)
			Clean(d)
			Add(c)
			Add(c, d.L...)
			Add(d, c.L...)
			Vars(c)
			Same(c, d)
			Same(c, c)
		})
		if said != "" {
			t.Error(said)
		}
	}
}

// A changed argument changes no answer that was there, and a changed answer no later one.
func TestAnswersStay(t *testing.T) {
	for _, l := range []string{"", ";", "1;", "2 1; -1;", "1 -1; 2; ; 2;", "3 -2 3 0; -2 3; 1;"} {
		for _, call := range []func(c api.Cnf) sample.Data{
			func(c api.Cnf) sample.Data { return sample.Sets(Clean(c)) },
			func(c api.Cnf) sample.Data { return sample.Sets(Add(c)) },
			func(c api.Cnf) sample.Data { return sample.Sets(Add(c, c.L...)) },
			func(c api.Cnf) sample.Data { return sample.Sets(Add(set(1), c.L...)) },
			func(c api.Cnf) sample.Data { return sample.Clauses(Vars(c)) },
		} {
			c := sample.RoomySet(of(3, l))
			if said := sample.Tied(func() sample.Data { return call(c) }, sample.Sets(c)); said != "" {
				t.Error(said)
			}
		}
	}
	s := "p cnf 3 3\n1 -2 3 0\n0\n-3 0\n"
	if said := sample.Tied(func() sample.Data { c, _, _ := Read(s); return sample.Sets(c) }, sample.Data{}); said != "" {
		t.Error(said)
	}
}
