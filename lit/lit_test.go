package lit

import (
	"slices"
	"testing"

	"sequitur/api"
	"sequitur/sample"
)

// none is a clause without literals.
var none []int

// critical are the numbers at which something changes, and those beside them.
func critical() []int {
	return []int{0, 1, -1, 2, -2, 3, -3, 1024, -1024, 1025, -1025, lowest, lowest + 1, lowest + 2, greatest, greatest - 1}
}

// ends are the numbers at the ends, and those at 0.
func ends() []int { return []int{0, lowest, lowest + 1, greatest, 1, -1} }

// allValues are all values of at most n variables.
func allValues(n int) [][]bool { return sample.Choices(n, true, false) }

// Promise 17.1.

func TestRight(t *testing.T) {
	checkRight(t, nil, 0, api.OK)
	checkRight(t, []int{}, 5, api.OK)
	checkRight(t, []int{1}, 1, api.OK)
	checkRight(t, []int{-1}, 1, api.OK)
	checkRight(t, []int{1, -3}, 3, api.OK)
	checkRight(t, []int{1, -3}, 2, api.ErrArg)
	checkRight(t, []int{3, -1}, 2, api.ErrArg)
	checkRight(t, []int{2, -2}, 2, api.OK)
	checkRight(t, []int{2, 2, 1, 2}, 2, api.OK)
	checkRight(t, []int{0}, 2, api.ErrArg)
	checkRight(t, []int{1, 0}, 2, api.ErrArg)
	checkRight(t, []int{0, 1}, 2, api.ErrArg)
	checkRight(t, []int{1024, -1024}, 1024, api.OK)
	checkRight(t, []int{1025}, 1024, api.ErrArg)
	checkRight(t, []int{-1025}, 1024, api.ErrArg)
	checkRight(t, []int{5000}, 5000, api.OK)
	for _, n := range []int{0, 1, 5, 1024, greatest} {
		checkRight(t, []int{lowest}, n, api.ErrArg)
		checkRight(t, []int{0}, n, api.ErrArg)
	}
	for _, l := range []int{greatest, -greatest} {
		checkRight(t, []int{l}, greatest, api.OK)
		checkRight(t, []int{l}, greatest-1, api.ErrArg)
		checkRight(t, []int{l}, 1, api.ErrArg)
	}
}

// An n that is not positive leaves no literal; the empty list is right whatever n is.
func TestRightOfFewVariables(t *testing.T) {
	for _, n := range []int{0, -1, -2, -1024, lowest + 1, lowest} {
		checkRight(t, nil, n, api.OK)
		checkRight(t, []int{}, n, api.OK)
		for _, l := range critical() {
			checkRight(t, []int{l}, n, api.ErrArg)
		}
	}
}

func TestRightAtTheLimit(t *testing.T) {
	if api.MaxLits != 64 {
		t.Error(api.MaxLits)
	}
	for _, n := range []int{62, 63, 64} {
		checkRight(t, sample.Rising(n), n, api.OK)
		checkRight(t, sample.Rising(n), n-1, api.ErrArg)
		checkRight(t, slices.Repeat([]int{-7}, n), 7, api.OK)
		checkRight(t, slices.Repeat([]int{-7}, n), 6, api.ErrArg)
		checkRight(t, make([]int, n), 9, api.ErrArg)
		for i := range n {
			for _, l := range []int{0, lowest, n + 1, -n - 1, greatest, -greatest} {
				checkRight(t, sample.Put(sample.Rising(n), i, l), n, api.ErrArg)
			}
			checkRight(t, sample.Put(sample.Rising(n), i, -i-1), n, api.OK)
		}
	}
	// Every number counts, whether it is a literal, and however often it stands there.
	for _, n := range []int{65, 66, 128, 1000, 30000} {
		for _, most := range []int{lowest, -1, 0, 1, n - 1, n, greatest} {
			checkRight(t, sample.Rising(n), most, api.ErrLong)
			checkRight(t, make([]int, n), most, api.ErrLong)
			checkRight(t, slices.Repeat([]int{1}, n), most, api.ErrLong)
			checkRight(t, slices.Repeat([]int{lowest}, n), most, api.ErrLong)
		}
	}
	for i := range 65 {
		checkRight(t, sample.Put(sample.Rising(65), i, 0), 65, api.ErrLong)
		checkRight(t, sample.Put(sample.Rising(65), i, lowest), 65, api.ErrLong)
	}
}

func TestClean(t *testing.T) {
	checkClean(t, nil, nil, true)
	checkClean(t, []int{}, nil, true)
	checkClean(t, []int{3, -1, 3}, []int{-1, 3}, true)
	checkClean(t, []int{-1, 3}, []int{-1, 3}, true)
	checkClean(t, []int{5}, []int{5}, true)
	checkClean(t, []int{-5, -5, -5}, []int{-5}, true)
	checkClean(t, []int{3, 2, 1}, []int{1, 2, 3}, true)
	checkClean(t, []int{-3, -2, -1}, []int{-1, -2, -3}, true)
	checkClean(t, []int{10, -9, 2, -11}, []int{2, -9, 10, -11}, true)
	for _, l := range critical() {
		if wantLiteral(l) {
			checkClean(t, []int{l}, []int{l}, true)
			checkClean(t, []int{l, 0, l, lowest}, []int{l}, true)
		} else {
			checkClean(t, []int{l}, nil, true)
			checkClean(t, []int{l, l, 4, l}, []int{4}, true)
			checkClean(t, []int{-4, l, 4, l}, []int{-4, 4}, false)
		}
	}
}

// The list is there beside false, too, and the opposite stands in it ahead of the variable.
func TestCleanOfOpposites(t *testing.T) {
	checkClean(t, []int{2, 1, -2, 0, 1}, []int{1, -2, 2}, false)
	checkClean(t, []int{1, -1}, []int{-1, 1}, false)
	checkClean(t, []int{-1, 1}, []int{-1, 1}, false)
	checkClean(t, []int{2, -3, 3, 1}, []int{1, 2, -3, 3}, false)
	checkClean(t, []int{-2, 1, 5, 3, -4, 2}, []int{1, -2, 2, 3, -4, 5}, false)
	checkClean(t, []int{1, 2, 3, 4, 5, -1}, []int{-1, 1, 2, 3, 4, 5}, false)
	checkClean(t, []int{5, 2, 3, 4, 1, -5}, []int{1, 2, 3, 4, -5, 5}, false)
	checkClean(t, []int{-1, 2, 1, -2}, []int{-1, 1, -2, 2}, false)
	checkClean(t, []int{3, 3, -3, 3, -3}, []int{-3, 3}, false)
	checkClean(t, []int{greatest, -greatest}, []int{-greatest, greatest}, false)
	checkClean(t, []int{greatest, 1, -greatest, -2}, []int{1, -2, -greatest, greatest}, false)
	checkClean(t, []int{greatest, lowest + 2, lowest}, []int{lowest + 2, greatest}, true)
	checkClean(t, []int{0, lowest, 0, lowest}, nil, true)
	for n := 1; n <= 64; n++ {
		for i := range n {
			want := slices.Insert(sample.Rising(n), i, -i-1)
			checkClean(t, append(sample.Rising(n), -i-1), want, false)
			checkClean(t, append([]int{-i - 1}, sample.Rising(n)...), want, false)
			back := slices.Clone(want)
			slices.Reverse(back)
			checkClean(t, back, want, false)
		}
	}
}

func TestHas(t *testing.T) {
	checkHas(t, nil, 1, false)
	checkHas(t, []int{}, 1, false)
	checkHas(t, []int{1}, 1, true)
	checkHas(t, []int{1}, -1, false)
	checkHas(t, []int{-1}, -1, true)
	checkHas(t, []int{-1}, 1, false)
	checkHas(t, []int{3, -2, 5}, 3, true)
	checkHas(t, []int{3, -2, 5}, -2, true)
	checkHas(t, []int{3, -2, 5}, 5, true)
	checkHas(t, []int{3, -2, 5}, 2, false)
	checkHas(t, []int{3, -2, 5}, 4, false)
	checkHas(t, []int{2, -2}, 2, true)
	checkHas(t, []int{2, -2}, -2, true)
	for _, l := range critical() {
		checkHas(t, nil, l, false)
		checkHas(t, []int{l}, l, l != 0 && l != lowest)
		checkHas(t, []int{7, l, l, -7}, l, l != 0 && l != lowest)
		checkHas(t, []int{7, l, l, -7}, 8, false)
		checkHas(t, []int{0, lowest, 9}, l, false)
	}
}

func TestSame(t *testing.T) {
	checkSame(t, nil, nil, true)
	checkSame(t, nil, []int{}, true)
	checkSame(t, nil, []int{1}, false)
	checkSame(t, []int{1}, []int{1}, true)
	checkSame(t, []int{1}, []int{-1}, false)
	checkSame(t, []int{1, 2, 1}, []int{2, 1}, true)
	checkSame(t, []int{1, 1, 2}, []int{1, 2, 2}, true)
	checkSame(t, []int{3, -1, 2}, []int{2, 3, -1}, true)
	checkSame(t, []int{3, -1, 2}, []int{2, 3, 1}, false)
	checkSame(t, []int{1, 2}, []int{1, 2, 3}, false)
	checkSame(t, []int{1, 2}, []int{1, 3}, false)
	checkSame(t, []int{1, 2}, []int{1, 2, -2}, false)
	checkSame(t, []int{1, -1}, []int{-1, 1, 1}, true)
	checkSame(t, []int{1, 1}, []int{1, 2}, false)
	checkSame(t, []int{0}, nil, true)
	checkSame(t, []int{0, lowest}, []int{lowest, lowest}, true)
	checkSame(t, []int{0, 1, 0}, []int{1, lowest}, true)
	checkSame(t, []int{0, 1}, []int{0, 2}, false)
	checkSame(t, []int{greatest}, []int{-greatest}, false)
	checkSame(t, []int{greatest, lowest}, []int{0, greatest, greatest}, true)
	checkSame(t, sample.Rising(64), append(sample.Rising(64), sample.Rising(64)...), true)
	checkSame(t, sample.Rising(64), sample.Rising(63), false)
	checkSame(t, sample.Rising(200), slices.Repeat(sample.Rising(200), 3), true)
}

func TestWithin(t *testing.T) {
	checkWithin(t, nil, nil, true)
	checkWithin(t, nil, []int{1}, true)
	checkWithin(t, []int{}, []int{-1, 2}, true)
	checkWithin(t, []int{1}, nil, false)
	checkWithin(t, []int{1}, []int{}, false)
	checkWithin(t, []int{1}, []int{1}, true)
	checkWithin(t, []int{1}, []int{-1}, false)
	checkWithin(t, []int{-1}, []int{1}, false)
	checkWithin(t, []int{2, 1}, []int{1, 2, 3}, true)
	checkWithin(t, []int{1, 2, 3}, []int{2, 1}, false)
	checkWithin(t, []int{1, 1, 1}, []int{1}, true)
	checkWithin(t, []int{1}, []int{2, 1, 1}, true)
	checkWithin(t, []int{1, 4}, []int{1, 2, 3}, false)
	checkWithin(t, []int{4, 1}, []int{1, 2, 3}, false)
	checkWithin(t, []int{1, -1}, []int{1}, false)
	checkWithin(t, []int{1, -1}, []int{-1, 2, 1}, true)
	checkWithin(t, []int{0}, nil, true)
	checkWithin(t, []int{lowest, 0}, []int{1}, true)
	checkWithin(t, []int{0, 1}, []int{1}, true)
	checkWithin(t, []int{1, 0, 2}, []int{1}, false)
	checkWithin(t, []int{1}, []int{0, lowest}, false)
	checkWithin(t, []int{greatest}, []int{greatest - 1, -greatest}, false)
	checkWithin(t, []int{-greatest}, []int{lowest, -greatest}, true)
	for n := 1; n <= 64; n++ {
		for i := range n {
			checkWithin(t, []int{i + 1}, sample.Rising(n), true)
			checkWithin(t, sample.Put(sample.Rising(n), i, -i-1), sample.Rising(n), false)
			checkWithin(t, slices.Delete(sample.Rising(n), i, i+1), sample.Rising(n), true)
			checkWithin(t, sample.Rising(n), slices.Delete(sample.Rising(n), i, i+1), false)
		}
	}
}

// The calls of one list follow the chapter for all lists of three numbers at which something changes.
func TestListsFollowTheChapter(t *testing.T) {
	values := allValues(3)
	for _, c := range sample.Choices(3, critical()...) {
		followClean(t, c)
		for _, n := range []int{lowest, -1, 0, 1, 2, 3, 1023, 1024, 1025, greatest - 1, greatest} {
			followRight(t, c, n)
		}
		for _, l := range critical() {
			checkHas(t, c, l, wantHas(c, l))
		}
		for _, l := range values {
			followValues(t, c, l)
		}
	}
	for _, c := range sample.Choices(5, 0, 1, -1, 2, -2) {
		followClean(t, c)
	}
}

// Promise 17.2.

func TestPivot(t *testing.T) {
	checkPivot(t, nil, nil, 0, false)
	checkPivot(t, nil, []int{1}, 0, false)
	checkPivot(t, []int{1}, []int{1}, 0, false)
	checkPivot(t, []int{1}, []int{-1}, 1, true)
	checkPivot(t, []int{-1}, []int{1}, 1, true)
	checkPivot(t, []int{-4, 1}, []int{4, 2}, 4, true)
	checkPivot(t, []int{1, 2}, []int{-1, 3}, 1, true)
	checkPivot(t, []int{1, 2}, []int{3, 4}, 0, false)
	checkPivot(t, []int{1, 2}, []int{1, 2}, 0, false)
	checkPivot(t, []int{1, 2}, []int{1, -2}, 2, true)
	checkPivot(t, []int{-4, 1}, []int{4, -1}, 0, false)
	checkPivot(t, []int{1, 2}, []int{-2, -1}, 0, false)
	checkPivot(t, []int{1, 2, 3}, []int{-1, -2, -3}, 0, false)
	checkPivot(t, []int{3, 2, 1}, []int{-1, 2, 3}, 1, true)
	checkPivot(t, []int{3, 2, 1}, []int{1, 2, -3}, 3, true)
	checkPivot(t, []int{1, 1, 1}, []int{-1}, 1, true)
	checkPivot(t, []int{1, 2, 1}, []int{-1, -1, 3, -1}, 1, true)
	checkPivot(t, []int{1, 2, 1}, []int{-1, -2, -1}, 0, false)
	checkPivot(t, []int{greatest}, []int{-greatest}, greatest, true)
	checkPivot(t, []int{greatest - 1, 1}, []int{1, 1 - greatest}, greatest-1, true)
	checkPivot(t, []int{greatest, 1}, []int{-greatest, -1}, 0, false)
}

// 0 and the least number are their own opposites, but no literals, and so no pivots; neither do they count as a second one.
func TestPivotOfNoLiterals(t *testing.T) {
	for _, l := range []int{0, lowest} {
		checkPivot(t, []int{l}, []int{l}, 0, false)
		checkPivot(t, []int{l, l, 2}, []int{l, 3}, 0, false)
		checkPivot(t, []int{l, -5}, []int{5, l}, 5, true)
		checkPivot(t, []int{1, l}, []int{l, -1}, 1, true)
		checkPivot(t, []int{1, l, 2}, []int{l, -1, -2}, 0, false)
	}
	checkPivot(t, []int{0, lowest}, []int{lowest, 0}, 0, false)
	checkPivot(t, []int{0, lowest, -greatest}, []int{lowest, 0, greatest}, greatest, true)
}

// It is the variables that are counted: one of which a list has both literals is one, though there are two ways to resolve by it.
func TestPivotOfBothLiterals(t *testing.T) {
	checkPivot(t, []int{1, -1}, []int{1}, 1, true)
	checkPivot(t, []int{1, -1}, []int{-1}, 1, true)
	checkPivot(t, []int{1, -1}, []int{1, -1}, 1, true)
	checkPivot(t, []int{-1, 1}, []int{1, -1}, 1, true)
	checkPivot(t, []int{1, -1}, nil, 0, false)
	checkPivot(t, []int{1, -1}, []int{2}, 0, false)
	checkPivot(t, []int{1, -1, 2}, []int{-2}, 2, true)
	checkPivot(t, []int{1, -1, 2}, []int{-2, 1}, 0, false)
	checkPivot(t, []int{1, -1, 2}, []int{2, -1, 3}, 1, true)
	checkPivot(t, []int{1, 2, -1}, []int{-1, -2, 1}, 0, false)
	checkPivot(t, []int{1, -1, 2, -2}, []int{2}, 2, true)
	checkPivot(t, []int{1, -1, 2, -2}, []int{2, -1}, 0, false)
}

func TestResolve(t *testing.T) {
	checkResolve(t, []int{1, 2}, []int{-1, 3}, 1, []int{2, 3}, api.OK)
	checkResolve(t, []int{1}, []int{-1}, 1, nil, api.OK)
	checkResolve(t, []int{-1}, []int{1}, -1, nil, api.OK)
	checkResolve(t, []int{-1, 2}, []int{1, 3}, -1, []int{2, 3}, api.OK)
	checkResolve(t, []int{1, 2}, []int{-1, 2}, 1, []int{2}, api.OK)
	checkResolve(t, []int{3, 1, -4}, []int{2, -1, 5}, 1, []int{2, 3, -4, 5}, api.OK)
	checkResolve(t, []int{7, -6, 5}, []int{4, -3, -5}, 5, []int{-3, 4, -6, 7}, api.OK)
	checkResolve(t, []int{1, 2, 1, 2}, []int{3, -1, -1}, 1, []int{2, 3}, api.OK)
	checkResolve(t, []int{1, 1, 1}, []int{-1, -1}, 1, nil, api.OK)
	checkResolve(t, []int{0, 1, lowest}, []int{lowest, -1, 0}, 1, nil, api.OK)
	checkResolve(t, []int{1, 0, 3}, []int{-1, lowest, 2}, 1, []int{2, 3}, api.OK)
	checkResolve(t, []int{greatest, 1}, []int{-greatest, -2}, greatest, []int{1, -2}, api.OK)
	checkResolve(t, []int{-greatest}, []int{greatest, 1 - greatest}, -greatest, []int{1 - greatest}, api.OK)
	checkResolve(t, sample.Rising(64), sample.Put(sample.Rising(64), 40, -41), 41, slices.Delete(sample.Rising(64), 40, 41), api.OK)
	checkResolve(t, append(sample.Rising(64), 65), append(sample.Rising(64), -65), 65, sample.Rising(64), api.OK)
}

func TestResolveByNoSuchLiteral(t *testing.T) {
	checkResolve(t, []int{1}, []int{-1}, -1, nil, api.ErrArg)
	checkResolve(t, []int{1, 2}, []int{-1, 3}, 2, nil, api.ErrArg)
	checkResolve(t, []int{1, 2}, []int{-1, 3}, -3, nil, api.ErrArg)
	checkResolve(t, []int{1, 2}, []int{-1, 3}, 3, nil, api.ErrArg)
	checkResolve(t, []int{1, 2}, []int{-1, 3}, 4, nil, api.ErrArg)
	checkResolve(t, []int{1, 2}, []int{1, 2}, 1, nil, api.ErrArg)
	checkResolve(t, []int{1, 2}, nil, 1, nil, api.ErrArg)
	checkResolve(t, nil, []int{-1}, 1, nil, api.ErrArg)
	checkResolve(t, nil, nil, 1, nil, api.ErrArg)
	checkResolve(t, []int{1}, []int{2, -2}, 1, nil, api.ErrArg) // ahead of what is left having opposites
	checkResolve(t, []int{3, -3}, []int{1, -1}, 2, nil, api.ErrArg)
	for _, v := range []int{0, lowest} {
		checkResolve(t, nil, nil, v, nil, api.ErrArg)
		checkResolve(t, []int{v}, []int{v}, v, nil, api.ErrArg)
		checkResolve(t, []int{v, 1}, []int{v, -1}, v, nil, api.ErrArg)
		checkResolve(t, []int{1, v, -1}, []int{v, v}, v, nil, api.ErrArg)
	}
}

func TestResolveWithOppositesLeft(t *testing.T) {
	checkResolve(t, []int{-4, 1}, []int{4, -1}, -4, nil, api.ErrSame)
	checkResolve(t, []int{1, 2}, []int{-1, -2}, 1, nil, api.ErrSame)
	checkResolve(t, []int{1, 2}, []int{-1, -2}, 2, nil, api.ErrSame)
	checkResolve(t, []int{1, 2, -2}, []int{-1}, 1, nil, api.ErrSame)
	checkResolve(t, []int{1}, []int{2, -1, -2}, 1, nil, api.ErrSame)
	checkResolve(t, []int{1, 5, 6}, []int{-1, 7, 8, -5}, 1, nil, api.ErrSame)
	checkResolve(t, []int{1, 2, 3}, []int{-1, -2, -3}, 2, nil, api.ErrSame)
	checkResolve(t, []int{1, greatest}, []int{-1, -greatest}, 1, nil, api.ErrSame)
}

// Only v goes from a, and only its opposite from b: the other literals of the variable stay.
func TestResolveOfBothLiterals(t *testing.T) {
	checkResolve(t, []int{1, -1}, []int{-1}, 1, []int{-1}, api.OK)
	checkResolve(t, []int{1, -1}, []int{1}, -1, []int{1}, api.OK)
	checkResolve(t, []int{1}, []int{1, -1}, 1, []int{1}, api.OK)
	checkResolve(t, []int{-1}, []int{1, -1}, -1, []int{-1}, api.OK)
	checkResolve(t, []int{1, -1}, []int{1, -1}, 1, nil, api.ErrSame)
	checkResolve(t, []int{1, -1}, []int{1, -1}, -1, nil, api.ErrSame)
	checkResolve(t, []int{2, 1, -1}, []int{-1, 3}, 1, []int{-1, 2, 3}, api.OK)
	checkResolve(t, []int{2, 1}, []int{-1, 3, 1}, 1, []int{1, 2, 3}, api.OK)
	checkResolve(t, []int{1, -1, 1, -1}, []int{-1, -1}, 1, []int{-1}, api.OK)
	checkResolve(t, []int{1, -1, 2}, []int{1, -2}, 2, nil, api.ErrSame)
	checkResolve(t, []int{1, -1, 2}, []int{1, -2}, -1, nil, api.ErrSame)
	checkResolve(t, []int{1, -1}, []int{1, -1, 2}, 2, nil, api.ErrArg)
}

// The calls of two lists follow the chapter for all lists of few numbers, resolved by every number that may matter.
func TestPairsFollowTheChapter(t *testing.T) {
	found := map[api.Errno]int{}
	pairs := func(lists [][]int, by ...int) {
		for _, a := range lists {
			for _, b := range lists {
				followPair(t, a, b)
				for _, v := range by {
					found[followResolve(t, a, b, v)]++
				}
			}
		}
	}
	pairs(sample.Choices(3, append(sample.Literals(2), 0)...), append(sample.Literals(2), 3, 0, lowest)...)
	pairs(sample.Choices(2, sample.Literals(4)...), 1, -1, 2, -4)
	pairs(sample.Choices(2, ends()...), append(ends(), 2)...)
	if l := sample.Rare(found, 1000, api.OK, api.ErrArg, api.ErrSame); len(l) > 0 || len(found) != 3 {
		t.Error(found)
	}
}

// Promise 17.3.

func TestHoldsAndCount(t *testing.T) {
	values := []bool{true, false, true}
	checkValues(t, nil, values, 0)
	checkValues(t, []int{}, values, 0)
	checkValues(t, nil, nil, 0)
	checkValues(t, []int{1}, values, 1)
	checkValues(t, []int{-1}, values, 0)
	checkValues(t, []int{2}, values, 0)
	checkValues(t, []int{-2}, values, 1)
	checkValues(t, []int{3}, values, 1)
	checkValues(t, []int{-3}, values, 0)
	checkValues(t, []int{-1, 2, -3}, values, 0)
	checkValues(t, []int{-1, 2, 3}, values, 1)
	checkValues(t, []int{1, 2, -3}, values, 1)
	checkValues(t, []int{-1, -2, -3}, values, 1)
	checkValues(t, []int{1, -2, 3}, values, 3)
	checkValues(t, []int{1, -1}, values, 1)
	checkValues(t, []int{2, -2}, values, 1)
	checkValues(t, []int{1, -2, 1, 3}, []bool{true, false}, 3)
	checkValues(t, []int{2, 1, 2, 1, 1}, values, 3)
	checkValues(t, []int{-2, -2, 2, -2}, values, 3)
	checkValues(t, []int{2, 2, 2, 2}, values, 0)
}

// Of a variable beyond the values neither literal holds.
func TestHoldsBeyondTheValues(t *testing.T) {
	checkValues(t, []int{-3}, nil, 0)
	checkValues(t, []int{1, -1}, nil, 0)
	checkValues(t, []int{1, -1}, []bool{}, 0)
	for n := range 8 {
		for _, value := range []bool{true, false} {
			values := slices.Repeat([]bool{value}, n)
			holds, fails := n, -n
			if !value {
				holds, fails = -n, n
			}
			if n > 0 {
				checkValues(t, []int{holds}, values, 1)
				checkValues(t, []int{fails}, values, 0)
				checkValues(t, []int{holds, n + 1, fails, -n - 1, holds}, values, 2)
			}
			for _, l := range []int{n + 1, n + 2, 64, 1024, 1025, greatest - 1, greatest} {
				checkValues(t, []int{l}, values, 0)
				checkValues(t, []int{-l}, values, 0)
				checkValues(t, []int{l, -l, l}, values, 0)
			}
		}
	}
	// There may be more values than a set may have variables.
	values := make([]bool, 5000)
	values[4999] = true
	checkValues(t, []int{5000, -4999, -5000, 4999, 5001, -5001}, values, 2)
}

// 0 and the least number are no literals, and so none that hold, whatever the values.
func TestHoldsOfNoLiterals(t *testing.T) {
	for _, values := range allValues(2) {
		checkValues(t, []int{0}, values, 0)
		checkValues(t, []int{lowest}, values, 0)
		checkValues(t, []int{0, lowest, 0}, values, 0)
	}
	checkValues(t, []int{0, 1, lowest, 0}, []bool{true}, 1)
	checkValues(t, []int{lowest, -1, -1}, []bool{false, true}, 2)
}

// Lists that are longer and scattered follow the chapter in every call.
func TestScatteredFollowTheChapter(t *testing.T) {
	next := sample.Scattered(88172645463325252)
	numbers := append(append(sample.Literals(8), sample.Literals(4)...), 0, lowest, greatest, -greatest)
	list := func() []int {
		var l []int
		for range next(9) {
			l = append(l, numbers[next(len(numbers))])
		}
		return l
	}
	found, pivots := map[api.Errno]int{}, 0
	for range 20000 {
		a, b := list(), list()
		followRight(t, a, next(9))
		followClean(t, a)
		followPair(t, a, b)
		followPair(t, a, slices.Concat(b, a))
		l := numbers[next(len(numbers))]
		checkHas(t, a, l, wantHas(a, l))
		found[followResolve(t, a, b, l)]++
		if v, ok := wantPivot(a, b); ok {
			pivots++
			found[followResolve(t, a, b, v)]++
			found[followResolve(t, a, b, -v)]++
		}
		values := make([]bool, next(10))
		for i := range values {
			values[i] = next(2) == 0
		}
		followValues(t, a, values)
	}
	if l := sample.Rare(found, 500, api.OK, api.ErrArg, api.ErrSame); len(l) > 0 || pivots < 2000 {
		t.Error(found, pivots)
	}
}

// Promise 17.4.

func TestResolventHolds(t *testing.T) {
	n, values := 0, allValues(3)
	lists := sample.Choices(3, sample.Literals(3)...)
	for _, a := range lists {
		for _, b := range lists {
			for _, v := range sample.Literals(3) {
				c, e := Resolve(a, b, v)
				if e != api.OK {
					continue
				}
				n++
				for _, l := range values {
					if Holds(a, l) && Holds(b, l) && !Holds(c, l) {
						t.Fatal(a, b, v, c, l)
					}
				}
			}
		}
	}
	if n < 10000 {
		t.Error(n, "resolvents")
	}
}

func TestCleanHoldsAlike(t *testing.T) {
	values := allValues(3)
	for _, c := range sample.Choices(4, append(sample.Literals(3), 0, lowest)...) {
		clean, ok := Clean(c)
		again, still := Clean(clean)
		if !slices.Equal(clean, again) || ok != still || !Same(c, clean) || !Within(c, clean) || !Within(clean, c) {
			t.Fatal(c, clean, again)
		}
		for _, l := range values {
			if Holds(c, l) != Holds(clean, l) || Holds(c, l) != (Count(c, l) > 0) {
				t.Fatal(c, clean, l)
			}
			// A clause with opposites holds whatever the values of its variables.
			if !ok && len(l) == 3 && !Holds(c, l) {
				t.Fatal(c, l)
			}
		}
	}
}

func TestWhatIsWithinHolds(t *testing.T) {
	values := allValues(3)
	lists := sample.Choices(3, append(sample.Literals(3), 0)...)
	n := 0
	for _, a := range lists {
		for _, b := range lists {
			if !Within(a, b) {
				continue
			}
			n++
			for _, l := range values {
				if Holds(a, l) && !Holds(b, l) {
					t.Fatal(a, b, l)
				}
			}
		}
	}
	if n < 5000 {
		t.Error(n)
	}
}

// What holds for all layers.

// Lists of any length are taken, also far beyond what Right lets be.
func TestLongLists(t *testing.T) {
	const n = 1 << 17
	up := sample.Rising(n)
	down := slices.Clone(up)
	slices.Reverse(down)
	other := sample.Put(up, n/2, -n/2-1)
	checkRight(t, up, n, api.ErrLong)
	checkClean(t, slices.Concat(down, up, make([]int, n)), up, true)
	checkClean(t, slices.Concat(down, []int{-n}), slices.Insert(slices.Clone(up), n-1, -n), false)
	checkHas(t, up, n, true)
	checkHas(t, up, -n, false)
	checkSame(t, up, slices.Concat(down, down), true)
	checkSame(t, up, down[:n-1], false)
	checkWithin(t, up[:n-1], down, true)
	checkWithin(t, up, other, false)
	checkPivot(t, other, down, n/2+1, true)
	checkPivot(t, up, down, 0, false)
	checkResolve(t, down, other, n/2+1, slices.Delete(slices.Clone(up), n/2, n/2+1), api.OK)
	checkResolve(t, down, sample.Put(other, 0, -1), n/2+1, nil, api.ErrSame)
	checkResolve(t, down, other, n+1, nil, api.ErrArg)
	values := slices.Repeat([]bool{true}, n-1)
	checkValues(t, up, values, n-1)
	checkValues(t, other, values, n-2)
	checkValues(t, slices.Repeat([]int{0, lowest, n, -n, -1}, n), values, 0)
}

// Nothing is written over the arguments, nor behind them.
func TestArgumentsStay(t *testing.T) {
	room := func(l []int) []int { return sample.Roomy(l, -77) }
	for _, c := range sample.Choices(3, 3, -1, 0, 1, -3, 2) {
		for _, d := range [][]int{nil, {-1}, {1, 3, -2}, {-3, 1, 0, 1}} {
			a, b, values := room(c), room(d), sample.Roomy([]bool{true, false}, true)
			wholes := sample.Clauses(a[:cap(a)], b[:cap(b)]).With(sample.Values(values[:cap(values)]))
			said := wholes.Changed(func() {
				Right(a, 2)
				Clean(a)
				Same(a, b)
				Within(a, b)
				Pivot(a, b)
				for _, v := range sample.Literals(3) {
					Has(a, v)
					Resolve(a, b, v)
				}
				Holds(a, values)
				Count(a, values)
			})
			if said != "" {
				t.Error(said)
			}
		}
	}
}

// A changed argument changes no answer that was there, and a changed answer no later one.
func TestAnswersStay(t *testing.T) {
	for _, c := range [][]int{nil, {1}, {-1, 2}, {2, -1, 2}, {1, 2, 3}, {3, 0, -2, 1, 1}, {1, -1}, sample.Rising(64)} {
		a := sample.Roomy(c, -77)
		clean := func() sample.Data { l, _ := Clean(a); return sample.Clauses(l) }
		if said := sample.Tied(clean, sample.Clauses(a)); said != "" {
			t.Error(said)
		}
		left, right := sample.Roomy(append([]int{80}, c...), -77), sample.Roomy([]int{-80, 90}, -77)
		resolve := func() sample.Data { l, _ := Resolve(left, right, 80); return sample.Clauses(l) }
		if said := sample.Tied(resolve, sample.Clauses(left, right)); said != "" {
			t.Error(said)
		}
	}
}

// A list may be both arguments.
func TestOneListTwice(t *testing.T) {
	for _, c := range sample.Choices(3, append(sample.Literals(2), 0)...) {
		followPair(t, c, c)
		for _, v := range sample.Literals(2) {
			want, e := wantResolve(c, c, v)
			var f api.Errno
			isList(t, func() (l []int) { l, f = Resolve(c, c, v); return l }, want, c)
			if f != e {
				t.Error(c, v, f)
			}
		}
	}
}
